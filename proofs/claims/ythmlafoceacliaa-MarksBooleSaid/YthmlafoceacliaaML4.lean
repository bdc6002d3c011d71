/- The law MarksBoole. -/
import Derived.Test.YthmlafoceacliaaML1
namespace Go.Proofs.Ythmlafoceacliaa
open Go.RowKit
set_option linter.unusedVariables false

theorem cnt_zip (a : List Bool) : ∀ b : List Bool, a.length = b.length → M.cnt (M.zipB and a b) + M.cnt (M.zipB or a b) = M.cnt a + M.cnt b := by
  induction a with
  | nil => intro b h; obtain rfl : b = [] := List.eq_nil_of_length_eq_zero h.symm; rfl
  | cons x a ih =>
    intro b h
    cases b with
    | nil => simp at h
    | cons y b =>
      have := ih b (by simpa using h)
      have e : ∀ f : Bool → Bool → Bool, M.zipB f (x :: a) (y :: b) = f x y :: M.zipB f a b := by
        intro f; unfold M.zipB; rw [List.length_cons, List.range_succ_eq_map]; simp [List.map_map, Function.comp_def]
      rw [e, e]
      cases x <;> cases y <;> simp [M.cnt] <;> omega
theorem cnt_not (a : List Bool) : M.cnt a + M.cnt (M.notL a) = a.length := by
  induction a with
  | nil => rfl
  | cons x a ih => have : M.notL (x :: a) = (!x) :: M.notL a := rfl; rw [this]; cases x <;> simp [M.cnt] <;> omega
theorem demorgan (a b : List Bool) (h : a.length = b.length) : M.notL (M.zipB and a b) = M.zipB or (M.notL a) (M.notL b) := by
  apply List.ext_getElem
  · simp [M.notL, M.zipB]
  · intro i h1 h2
    have hi : i < a.length := by simpa [M.notL, M.zipB] using h1
    have hj : i < b.length := by omega
    simp [M.notL, M.zipB, List.getElem?_eq_getElem hi, List.getElem?_eq_getElem hj]

set_option maxHeartbeats 2000000 in
set_option maxRecDepth 100000 in
theorem boole_ok (w : World) (a : Option Addr) (c : Nat) (l : List Bool) (hu : Bools w w.heap.size a l) (b : Option Addr) (d : Nat) (m : List Bool) (hv : Bools w w.heap.size b m) (hl : l.length ≤ 64) (hlm : l.length = m.length) :
    Calls Try.prog 7 #[.slice a l.length c, .slice b m.length d] w (BoolPost true w) := by
  have hm : m.length ≤ 64 := by omega
  have hx := and_any a b c d l m w hu hv
  rw [M.pairR, if_neg (by omega), if_neg (by omega)] at hx
  have hy := fun w hu hv => or_any a b c d l m w hu hv
  simp only [M.pairR, if_neg (show ¬ (64 < l.length ∨ 64 < m.length) by omega), if_neg (show ¬ (l.length ≠ m.length) by omega)] at hy
  have hp := fun w hu => not_any a c l w hu
  simp only [M.notR, if_neg (show ¬ 64 < l.length by omega)] at hp
  have hq := fun w hu => not_any b d m w hu
  simp only [M.notR, if_neg (show ¬ 64 < m.length by omega)] at hq
  have hxl : (M.zipB and l m).length = l.length := zipB_length _ _ _
  have hyl : (M.zipB or l m).length = l.length := zipB_length _ _ _
  have hpl : (M.notL l).length = l.length := notL_length _
  have hql : (M.notL m).length = m.length := notL_length _
  have hn := fun a c w hu => not_any a c (M.zipB and l m) w hu
  simp only [M.notR, if_neg (show ¬ 64 < (M.zipB and l m).length by omega), demorgan l m hlm] at hn
  have hmm := fun a b c d w hu hv => or_any a b c d (M.notL l) (M.notL m) w hu hv
  simp only [M.pairR, if_neg (show ¬ (64 < (M.notL l).length ∨ 64 < (M.notL m).length) by omega), if_neg (show ¬ ((M.notL l).length ≠ (M.notL m).length) by omega)] at hmm
  have hzl : (M.zipB or (M.notL l) (M.notL m)).length = l.length := by rw [zipB_length, hpl]
  have hsm := fun a b c d w B' h1 h2 => msame_any a b c d (M.zipB or (M.notL l) (M.notL m)) (M.zipB or (M.notL l) (M.notL m)) w B' h1 h2 (by omega)
  rw [decide_eq_true rfl] at hsm
  have hcz := cnt_zip l m hlm
  have hcn := cnt_not l
  have hcl := M.cnt_le l
  have hcm := M.cnt_le m
  have hca := M.cnt_le (M.zipB and l m)
  have hco := M.cnt_le (M.zipB or l m)
  have hcp := M.cnt_le (M.notL l)
  have C1 := Lib.hid (fun a c w B' h => count_any a c (M.zipB and l m) w B' (by unfold maxLen; omega) h)
  have C2 := Lib.hid (fun a c w B' h => count_any a c (M.zipB or l m) w B' (by unfold maxLen; omega) h)
  have C3 := Lib.hid (fun w B' h => count_any a c l w B' (by unfold maxLen; omega) h)
  have C4 := Lib.hid (fun w B' h => count_any b d m w B' (by unfold maxLen; omega) h)
  have C5 := Lib.hid (fun a c w B' h => count_any a c (M.notL l) w B' (by unfold maxLen; omega) h)
  have HX := Lib.hid hx
  have HY := Lib.hid hy
  have HP := Lib.hid hp
  have HQ := Lib.hid hq
  have HN := Lib.hid hn
  have HM := Lib.hid hmm
  have HS := Lib.hid hsm
  clear hx hy hp hq hn hmm hsm
  generalize M.zipB or (M.notL l) (M.notL m) = ns at *
  generalize M.zipB and l m = xs at *
  generalize M.zipB or l m = ys at *
  generalize M.notL l = ps at *
  generalize M.notL m = qs at *
  have e1 : ((M.cnt xs : Int) + (M.cnt ys : Int) == (M.cnt l : Int) + (M.cnt m : Int)) = true := by rw [beq_iff_eq]; omega
  have e2 : ((M.cnt l : Int) + (M.cnt ps : Int) == (l.length : Int)) = true := by rw [beq_iff_eq]; omega
  have b1 : M.cnt xs ≤ 64 := by omega
  have b2 : M.cnt ys ≤ 64 := by omega
  have b3 : M.cnt ps ≤ 64 := by omega
  have b4 : M.cnt l ≤ 64 := by omega
  have b5 : M.cnt m ≤ 64 := by omega
  clear hcz hcn hcl hcm hca hco hcp hxl hyl hpl hql hzl hlm
  generalize M.cnt xs = k1 at *
  generalize M.cnt ys = k2 at *
  generalize M.cnt ps = k3 at *
  generalize M.cnt l = k4 at *
  generalize M.cnt m = k5 at *
  go_enter Try.func7, Try.ntmps7
  go_wp2_with fail
  refine (HX.out).mono ?_
  rintro e w1 ⟨ax, cx, rfl, hn1, hb1⟩
  go_wp2_with fail
  refine (HY.out w1 (hu.next hb1) (hv.next hb1)).mono ?_
  rintro e w2 ⟨ay, cy, rfl, hn2, hb2⟩
  have h02 := below_then hb1 hb2
  go_wp2_with fail
  refine (HP.out w2 (hu.next h02)).mono ?_
  rintro e w3 ⟨ap, cp, rfl, hn3, hb3⟩
  have h03 := below_then h02 hb3
  go_wp2_with fail
  refine (HQ.out w3 (hv.next h03)).mono ?_
  rintro e w4 ⟨aq, cq, rfl, hn4, hb4⟩
  have h04 := below_then h03 hb4
  go_wp2_with fail
  refine (rbegun_any _).mono ?_
  rintro e w5 ⟨rfl, hb5⟩
  have h05 := below_then h04 hb5
  have h45 := hb5
  have h35 := below_then hb4 h45
  have h25 := below_then hb3 h35
  have h15 := below_then hb2 h25
  go_wp2_with fail
  refine (HN.out ax cx w5 (hn1.next h15)).mono ?_
  rintro e w6 ⟨an, cn, rfl, hn6, hb6⟩
  go_wp2_with fail
  refine (HM.out ap aq cp cq w6 (hn3.next (below_then h35 hb6)) (hn4.next (below_then h45 hb6))).mono ?_
  rintro e w7 ⟨am, cm, rfl, hn7, hb7⟩
  go_wp2_with fail
  refine (HS.out an am cn cm w7 _ (hn6.next hb7) hn7).mono ?_
  rintro e w8 ⟨rfl, hb8⟩
  have h58 := below_then (below_then hb6 hb7) hb8
  have h08 := below_then h05 h58
  go_wp2_with fail
  refine (C1.out ax cx w8 _ (hn1.next (below_then h15 h58))).mono ?_
  rintro e wx ⟨rfl, rfl⟩
  go_wp2_with fail
  refine (C2.out ay cy w8 _ (hn2.next (below_then h25 h58))).mono ?_
  rintro e wx ⟨rfl, rfl⟩
  go_wp2_with fail
  refine (C3.out w8 _ (hu.next h08)).mono ?_
  rintro e wx ⟨rfl, rfl⟩
  go_wp2_with fail
  refine (C4.out w8 _ (hv.next h08)).mono ?_
  rintro e wx ⟨rfl, rfl⟩
  go_wp2_with fail
  refine (C3.out w8 _ (hu.next h08)).mono ?_
  rintro e wx ⟨rfl, rfl⟩
  go_wp2_with fail
  refine (C5.out ap cp w8 _ (hn3.next (below_then h35 h58))).mono ?_
  rintro e wx ⟨rfl, rfl⟩
  go_wp2_with fail
  go_ret
  exact ⟨rfl, h08⟩

set_option maxHeartbeats 1000000 in
set_option maxRecDepth 100000 in
theorem boole_bad (w : World) (a : Option Addr) (c : Nat) (l : List Bool) (hu : Bools w w.heap.size a l) (b : Option Addr) (d : Nat) (m : List Bool) (hv : Bools w w.heap.size b m) (er : Nat) (her : 0 < er) (h : ∀ f, M.pairR f l m = ([], er)) :
    Calls Try.prog 7 #[.slice a l.length c, .slice b m.length d] w (BoolPost true w) := by
  have hx := and_any a b c d l m w hu hv
  have hy := fun w hu hv => or_any a b c d l m w hu hv
  rw [h] at hx
  simp only [h] at hy
  have HP := Lib.hid (fun w hu => not_any a c l w hu)
  have HQ := Lib.hid (fun w hu => not_any b d m w hu)
  generalize M.notR l = rp at *
  generalize M.notR m = rq at *
  obtain ⟨p1, p2⟩ := rp
  obtain ⟨q1, q2⟩ := rq
  have HX := Lib.hid hx
  have HY := Lib.hid hy
  have g1 : ((er : Int) != 0) = true := by rw [bne_iff_ne]; omega
  have g2 : ((er : Int) != (er : Int)) = false := by simp
  clear hx hy h
  go_enter Try.func7, Try.ntmps7
  go_wp2_with fail
  refine (HX.out).mono ?_
  rintro e w1 ⟨ax, cx, rfl, hn1, hb1⟩
  go_wp2_with fail
  refine (HY.out w1 (hu.next hb1) (hv.next hb1)).mono ?_
  rintro e w2 ⟨ay, cy, rfl, hn2, hb2⟩
  have h02 := below_then hb1 hb2
  go_wp2_with fail
  refine (HP.out w2 (hu.next h02)).mono ?_
  rintro e w3 ⟨ap, cp, rfl, hn3, hb3⟩
  have h03 := below_then h02 hb3
  go_wp2_with fail
  refine (HQ.out w3 (hv.next h03)).mono ?_
  rintro e w4 ⟨aq, cq, rfl, hn4, hb4⟩
  have h04 := below_then h03 hb4
  go_wp2_with fail
  refine (rbegun_any _).mono ?_
  rintro e w5 ⟨rfl, hb5⟩
  have h05 := below_then h04 hb5
  go_wp2_with fail
  go_ret
  exact ⟨rfl, h05⟩

theorem marksBoole_walk (w : World) (a : Option Addr) (c : Nat) (l : List Bool) (hm : l.length ≤ maxLen) (hcap : l.length ≤ c ∧ c ≤ maxLen ∧ (a = none → c = 0)) (hu : Bools w w.heap.size a l)
    (b : Option Addr) (d : Nat) (m : List Bool) (hm2 : m.length ≤ maxLen) (hcap2 : m.length ≤ d ∧ d ≤ maxLen ∧ (b = none → d = 0)) (hv : Bools w w.heap.size b m) :
    Calls Try.prog 7 #[.slice a l.length c, .slice b m.length d] w (BoolPost true w) := by
  by_cases h2 : 64 < l.length ∨ 64 < m.length
  · exact boole_bad w a c l hu b d m hv 2 (by omega) (fun f => by rw [M.pairR, if_pos h2])
  by_cases h3 : l.length = m.length
  · exact boole_ok w a c l hu b d m hv (by omega) h3
  · exact boole_bad w a c l hu b d m hv 1 (by omega) (fun f => by rw [M.pairR, if_neg h2, if_pos h3])
end Go.Proofs.Ythmlafoceacliaa
