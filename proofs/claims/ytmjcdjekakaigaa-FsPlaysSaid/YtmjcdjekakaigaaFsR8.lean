/- The walk of the reference's opCheck. -/
import Derived.Test.YtmjcdjekakaigaaFsR7
import Derived.Test.YtmjcdjekakaigaaFsSd
namespace Go.Proofs.Ytmjcdjekakaigaa.Fs
open Go.RowKit
set_option linter.unusedVariables false

set_option maxHeartbeats 4000000 in
set_option maxRecDepth 100000 in
theorem rOp_any (o : Op) (w : World) (ho : opOk o) : Calls Try.prog 28 #[opV o] w (NumPost (opE o) w) := by
  have hal : Below w.heap.size w (w.alloc (.cells #[.int .i64 o.kind, .string (str o.name), .string (str o.to), .string (str o.text)] 27)) := (Below.refl _ _).alloc (Nat.le_refl _) _
  have hO : Bk (w.alloc (.cells #[.int .i64 o.kind, .string (str o.name), .string (str o.to), .string (str o.text)] 27)) w.heap.size 27 #[.int .i64 o.kind, .string (str o.name), .string (str o.to), .string (str o.text)] := bk_new _ _ _
  unfold opV
  have HN := Lib.hid (fun W => rName_any o.name W ho.2.1)
  have HT := Lib.hid (fun W => rName_any o.to W ho.2.2.1)
  have e1 := str_nil o.name
  have e2 := str_nil o.to
  have e3 := str_nil o.text
  have f1 := str_nil2 o.name
  have f2 := str_nil2 o.to
  have f3 := str_nil2 o.text
  have hz : (str o.text).size = o.text.length := str_size _
  have HO := Lib.hid hO
  have hs := hal.size
  unfold opE said
  have hzl := ho.2.2.2
  unfold maxLen at hzl
  generalize o.text.length = L at *
  generalize isName o.name = n1 at *
  generalize isName o.to = m1 at *
  generalize decide (o.name = []) = n2 at *
  generalize decide (o.to = []) = m2 at *
  generalize decide (o.text = []) = x1 at *
  generalize str o.name = X at *
  generalize str o.to = Y at *
  generalize str o.text = Z at *
  generalize o.kind = k at *
  have hk9 := ho.1
  clear hO ho
  by_cases hlo : k < 1
  · rw [if_pos (Or.inl hlo)]
    have d1 : decide (k < 1) = true := decide_eq_true hlo
    clear HN HT HO
    go_enter Try.func28, Try.ntmps28
    go_wp2_with fail
    go_ret
    exact ⟨rfl, hal⟩
  by_cases hhi : 5 < k
  · rw [if_pos (Or.inr hhi)]
    have d1 : decide (k < 1) = false := decide_eq_false hlo
    have d2 : decide (5 < k) = true := decide_eq_true hhi
    clear HN HT HO
    go_enter Try.func28, Try.ntmps28
    go_wp2_with fail
    go_ret
    exact ⟨rfl, hal⟩
  rw [if_neg (by omega)]
  have d1 : decide (k < 1) = false := decide_eq_false hlo
  have d2 : decide (5 < k) = false := decide_eq_false hhi
  by_cases k5 : k = 5
  · subst k5
    rw [if_pos (rfl : (5 : Int) = 5), if_neg (show ¬ (5 : Int) = 3 by omega), show decide ((5 : Int) = 1) = false by decide, Bool.or_false]
    cases n2 with
    | false =>
      rw [if_pos (by simp)]
      go_enter Try.func28, Try.ntmps28
      go_wp2_with fail
      go_ret
      exact ⟨rfl, hal⟩
    | true =>
      cases m2 with
      | false =>
        rw [if_pos (by simp)]
        go_enter Try.func28, Try.ntmps28
        go_wp2_with fail
        go_ret
        exact ⟨rfl, hal⟩
      | true =>
        cases x1 with
        | false =>
          rw [if_pos (by simp)]
          go_enter Try.func28, Try.ntmps28
          go_wp2_with fail
          go_ret
          exact ⟨rfl, hal⟩
        | true =>
          rw [if_neg (by simp)]
          by_cases hL : 65536 < L
          · rw [if_pos hL]
            have g1 : decide (65536 < (L : Int)) = true := decide_eq_true (by omega)
            go_enter Try.func28, Try.ntmps28
            go_wp2_with fail
            go_ret
            exact ⟨rfl, hal⟩
          · rw [if_neg hL]
            have g1 : decide (65536 < (L : Int)) = false := decide_eq_false (by omega)
            go_enter Try.func28, Try.ntmps28
            go_wp2_with fail
            go_ret
            exact ⟨rfl, hal⟩
  have q5 : (k == 5) = false := beq_eq_false_iff_ne.2 k5
  have p5 : (k != 5) = true := bne_iff_ne.2 k5
  rw [if_neg k5]
  by_cases k3 : k = 3
  · subst k3
    rw [if_pos (rfl : (3 : Int) = 3), show decide ((3 : Int) = 1) = false by decide, Bool.or_false]
    cases n1 with
    | false =>
      rw [if_pos (by simp)]
      go_enter Try.func28, Try.ntmps28
      go_wp2_with fail
      refine (HN.out _).mono ?_
      rintro e w1 ⟨rfl, hb1⟩
      have hB1 := below_then (Below.refl _ _) hb1
      obtain ⟨s10, s11, s12, s13⟩ := (HO.out.next hB1).four
      go_wp2_with fail
      go_ret
      exact ⟨rfl, hal.trans (hB1.mono hs)⟩
    | true =>
      cases m1 with
      | false =>
        rw [if_pos (by simp)]
        go_enter Try.func28, Try.ntmps28
        go_wp2_with fail
        refine (HN.out _).mono ?_
        rintro e w1 ⟨rfl, hb1⟩
        have hB1 := below_then (Below.refl _ _) hb1
        obtain ⟨s10, s11, s12, s13⟩ := (HO.out.next hB1).four
        go_wp2_with fail
        refine (HT.out _).mono ?_
        rintro e w2 ⟨rfl, hb2⟩
        have hB2 := below_then hB1 hb2
        obtain ⟨s20, s21, s22, s23⟩ := (HO.out.next hB2).four
        go_wp2_with fail
        go_ret
        exact ⟨rfl, hal.trans (hB2.mono hs)⟩
      | true =>
        cases x1 with
        | false =>
          rw [if_pos (by simp)]
          go_enter Try.func28, Try.ntmps28
          go_wp2_with fail
          refine (HN.out _).mono ?_
          rintro e w1 ⟨rfl, hb1⟩
          have hB1 := below_then (Below.refl _ _) hb1
          obtain ⟨s10, s11, s12, s13⟩ := (HO.out.next hB1).four
          go_wp2_with fail
          refine (HT.out _).mono ?_
          rintro e w2 ⟨rfl, hb2⟩
          have hB2 := below_then hB1 hb2
          obtain ⟨s20, s21, s22, s23⟩ := (HO.out.next hB2).four
          go_wp2_with fail
          go_ret
          exact ⟨rfl, hal.trans (hB2.mono hs)⟩
        | true =>
          rw [if_neg (by simp)]
          by_cases hL : 65536 < L
          · rw [if_pos hL]
            have g1 : decide (65536 < (L : Int)) = true := decide_eq_true (by omega)
            go_enter Try.func28, Try.ntmps28
            go_wp2_with fail
            refine (HN.out _).mono ?_
            rintro e w1 ⟨rfl, hb1⟩
            have hB1 := below_then (Below.refl _ _) hb1
            obtain ⟨s10, s11, s12, s13⟩ := (HO.out.next hB1).four
            go_wp2_with fail
            refine (HT.out _).mono ?_
            rintro e w2 ⟨rfl, hb2⟩
            have hB2 := below_then hB1 hb2
            obtain ⟨s20, s21, s22, s23⟩ := (HO.out.next hB2).four
            go_wp2_with fail
            go_ret
            exact ⟨rfl, hal.trans (hB2.mono hs)⟩
          · rw [if_neg hL]
            have g1 : decide (65536 < (L : Int)) = false := decide_eq_false (by omega)
            go_enter Try.func28, Try.ntmps28
            go_wp2_with fail
            refine (HN.out _).mono ?_
            rintro e w1 ⟨rfl, hb1⟩
            have hB1 := below_then (Below.refl _ _) hb1
            obtain ⟨s10, s11, s12, s13⟩ := (HO.out.next hB1).four
            go_wp2_with fail
            refine (HT.out _).mono ?_
            rintro e w2 ⟨rfl, hb2⟩
            have hB2 := below_then hB1 hb2
            obtain ⟨s20, s21, s22, s23⟩ := (HO.out.next hB2).four
            go_wp2_with fail
            go_ret
            exact ⟨rfl, hal.trans (hB2.mono hs)⟩
  have q3 : (k == 3) = false := beq_eq_false_iff_ne.2 k3
  have p3 : (k != 3) = true := bne_iff_ne.2 k3
  rw [if_neg k3]
  by_cases k1 : k = 1
  · subst k1
    rw [show decide ((1 : Int) = 1) = true by decide, Bool.or_true, Bool.and_true]
    cases n1 with
    | false =>
      rw [if_pos (by simp)]
      go_enter Try.func28, Try.ntmps28
      go_wp2_with fail
      refine (HN.out _).mono ?_
      rintro e w1 ⟨rfl, hb1⟩
      have hB1 := below_then (Below.refl _ _) hb1
      obtain ⟨s10, s11, s12, s13⟩ := (HO.out.next hB1).four
      go_wp2_with fail
      go_ret
      exact ⟨rfl, hal.trans (hB1.mono hs)⟩
    | true =>
      cases m2 with
      | false =>
        rw [if_pos (by simp)]
        go_enter Try.func28, Try.ntmps28
        go_wp2_with fail
        refine (HN.out _).mono ?_
        rintro e w1 ⟨rfl, hb1⟩
        have hB1 := below_then (Below.refl _ _) hb1
        obtain ⟨s10, s11, s12, s13⟩ := (HO.out.next hB1).four
        go_wp2_with fail
        go_ret
        exact ⟨rfl, hal.trans (hB1.mono hs)⟩
      | true =>
        rw [if_neg (by simp)]
        by_cases hL : 65536 < L
        · rw [if_pos hL]
          have g1 : decide (65536 < (L : Int)) = true := decide_eq_true (by omega)
          go_enter Try.func28, Try.ntmps28
          go_wp2_with fail
          refine (HN.out _).mono ?_
          rintro e w1 ⟨rfl, hb1⟩
          have hB1 := below_then (Below.refl _ _) hb1
          obtain ⟨s10, s11, s12, s13⟩ := (HO.out.next hB1).four
          go_wp2_with fail
          go_ret
          exact ⟨rfl, hal.trans (hB1.mono hs)⟩
        · rw [if_neg hL]
          have g1 : decide (65536 < (L : Int)) = false := decide_eq_false (by omega)
          go_enter Try.func28, Try.ntmps28
          go_wp2_with fail
          refine (HN.out _).mono ?_
          rintro e w1 ⟨rfl, hb1⟩
          have hB1 := below_then (Below.refl _ _) hb1
          obtain ⟨s10, s11, s12, s13⟩ := (HO.out.next hB1).four
          go_wp2_with fail
          go_ret
          exact ⟨rfl, hal.trans (hB1.mono hs)⟩
  have p1 : (k != 1) = true := bne_iff_ne.2 k1
  rw [show decide (k = 1) = false from decide_eq_false k1, Bool.or_false]
  cases n1 with
  | false =>
    rw [if_pos (by simp)]
    go_enter Try.func28, Try.ntmps28
    go_wp2_with fail
    refine (HN.out _).mono ?_
    rintro e w1 ⟨rfl, hb1⟩
    have hB1 := below_then (Below.refl _ _) hb1
    obtain ⟨s10, s11, s12, s13⟩ := (HO.out.next hB1).four
    go_wp2_with fail
    go_ret
    exact ⟨rfl, hal.trans (hB1.mono hs)⟩
  | true =>
    cases m2 with
    | false =>
      rw [if_pos (by simp)]
      go_enter Try.func28, Try.ntmps28
      go_wp2_with fail
      refine (HN.out _).mono ?_
      rintro e w1 ⟨rfl, hb1⟩
      have hB1 := below_then (Below.refl _ _) hb1
      obtain ⟨s10, s11, s12, s13⟩ := (HO.out.next hB1).four
      go_wp2_with fail
      go_ret
      exact ⟨rfl, hal.trans (hB1.mono hs)⟩
    | true =>
      cases x1 with
      | false =>
        rw [if_pos (by simp)]
        go_enter Try.func28, Try.ntmps28
        go_wp2_with fail
        refine (HN.out _).mono ?_
        rintro e w1 ⟨rfl, hb1⟩
        have hB1 := below_then (Below.refl _ _) hb1
        obtain ⟨s10, s11, s12, s13⟩ := (HO.out.next hB1).four
        go_wp2_with fail
        go_ret
        exact ⟨rfl, hal.trans (hB1.mono hs)⟩
      | true =>
        rw [if_neg (by simp)]
        by_cases hL : 65536 < L
        · rw [if_pos hL]
          have g1 : decide (65536 < (L : Int)) = true := decide_eq_true (by omega)
          go_enter Try.func28, Try.ntmps28
          go_wp2_with fail
          refine (HN.out _).mono ?_
          rintro e w1 ⟨rfl, hb1⟩
          have hB1 := below_then (Below.refl _ _) hb1
          obtain ⟨s10, s11, s12, s13⟩ := (HO.out.next hB1).four
          go_wp2_with fail
          go_ret
          exact ⟨rfl, hal.trans (hB1.mono hs)⟩
        · rw [if_neg hL]
          have g1 : decide (65536 < (L : Int)) = false := decide_eq_false (by omega)
          go_enter Try.func28, Try.ntmps28
          go_wp2_with fail
          refine (HN.out _).mono ?_
          rintro e w1 ⟨rfl, hb1⟩
          have hB1 := below_then (Below.refl _ _) hb1
          obtain ⟨s10, s11, s12, s13⟩ := (HO.out.next hB1).four
          go_wp2_with fail
          go_ret
          exact ⟨rfl, hal.trans (hB1.mono hs)⟩
end Go.Proofs.Ytmjcdjekakaigaa.Fs
