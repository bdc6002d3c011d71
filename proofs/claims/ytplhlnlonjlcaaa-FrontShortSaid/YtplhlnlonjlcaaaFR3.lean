/- The walk of hypostyleref.FrontOf. -/
import Derived.Test.YtplhlnlonjlcaaaFR2
import Derived.Test.YtplhlnlonjlcaaaFW6
namespace Go.Proofs.Ytplhlnlonjlcaaa
open Go.RowKit
set_option linter.unusedVariables false

theorem rvof_any (s : ByteArray) (w : World) (hs : s.size ≤ maxLen) : Calls Try.prog 25 #[.string s] w (ReadPost (V.rd s.data.toList) w) := by
  by_cases h0 : s.size = 0
  · have e : s.data.toList = [] := data_empty s h0
    rw [e]
    exact vof_empty s w h0
  · exact vof_any s w hs (by omega)

theorem next_e1 {r last : List UInt8} {n k e : Nat} (h : V.rd r = (n, k, e)) (he : e ≠ 0) : nextR r last = ([], [], e) := by
  unfold nextR toldR; simp [h, he]
theorem next_e2 {r last : List UInt8} {n k m j e : Nat} (h : V.rd r = (n, k, 0)) (h2 : V.rd (r.drop k) = (m, j, e)) (he : e ≠ 0) : nextR r last = ([], [], e) := by
  unfold nextR toldR; simp [h, h2, he]
theorem told_ok {r : List UInt8} {n k m j : Nat} (h : V.rd r = (n, k, 0)) (h2 : V.rd (r.drop k) = (m, j, 0)) : toldR r = ((n, m), r.drop (k + j), 0) := by
  unfold toldR; simp [h, h2]
theorem next_e3 {r last : List UInt8} {n m : Nat} {q : List UInt8} (h : toldR r = ((n, m), q, 0)) (h3 : last.length < n) : nextR r last = ([], [], 3) := by
  unfold nextR; simp [h, h3]
theorem next_e4 {r last : List UInt8} {n m : Nat} {q : List UInt8} (h : toldR r = ((n, m), q, 0)) (h3 : ¬ last.length < n) (hl : last.length ≤ 16) (h4 : 16 < n + m) : nextR r last = ([], [], 2) := by
  have : 16 - n < m := by omega
  unfold nextR; simp [h, h3, this]
theorem next_e5 {r last : List UInt8} {n m : Nat} {q : List UInt8} (h : toldR r = ((n, m), q, 0)) (h3 : ¬ last.length < n) (h4 : ¬ 16 < n + m) (h5 : q.length < m) : nextR r last = ([], [], 5) := by
  have : ¬ 16 - n < m := by omega
  unfold nextR; simp [h, h3, this, h5]
theorem next_e6 {r last : List UInt8} {n m : Nat} {q : List UInt8} (h : toldR r = ((n, m), q, 0)) (h3 : ¬ last.length < n) (h4 : ¬ 16 < n + m) (h5 : ¬ q.length < m) :
    nextR r last = if F.sh last (last.take n ++ q.take m) ≠ n then ([], [], 1) else (last.take n ++ q.take m, q.drop m, 0) := by
  have h4' : ¬ 16 - n < m := by omega
  have hge : n ≤ F.sh last (last.take n ++ q.take m) := by
    refine F.sh_ge n _ _ (by omega) (by rw [List.length_append, List.length_take]; omega) ?_
    rw [List.take_append_of_le_length (by rw [List.length_take]; omega), List.take_take, Nat.min_self]
  unfold nextR
  rw [h]
  simp only
  rw [if_neg (by simp), if_neg h3, if_neg h4', if_neg h5]
  by_cases h6 : F.sh last (last.take n ++ q.take m) ≠ n
  · rw [if_pos h6, if_pos (by omega)]
  · rw [if_neg h6, if_neg (by omega)]

set_option maxHeartbeats 2000000 in
set_option maxRecDepth 100000 in
theorem fof_ok (s : List UInt8) (n : Nat) (w : World) (hs : s.length ≤ maxLen) (hn : n ≤ 64) :
    Calls Try.prog 17 #[.string (str s), .int .i64 (n : Int)] w (TextsPost (F.fr n [] s) w) := by
  unfold maxLen at hs
  have H0 := Lib.hid (show F.fr n [] s = glue [] (F.fr (n - ([] : List (List UInt8)).length) [] s) by rw [glue_nil]; rfl)
  obtain ⟨R, hR⟩ : ∃ R, R = F.fr n [] s := ⟨_, rfl⟩
  rw [← hR] at H0 ⊢
  clear hR
  have g1 : decide ((64 : Int) < (n : Int)) = false := decide_eq_false (by omega)
  have g2 : decide ((n : Int) < 0) = false := decide_eq_false (by omega)
  go_enter Try.func17, Try.ntmps17
  go_wp2_with fail
  go_loopw [0, 6, 7, 8, 9, 10, 11, 12, 13] (fun t b v _ _ _ _ _ _ wr => ∃ (acc : List (List UInt8)) (last r : List UInt8), acc.length ≤ n ∧ t = .string (str r) ∧ b = .string (str last) ∧ last.length ≤ 16 ∧ r.length ≤ 9223372036854775807 ∧ TRow w.heap.size acc v wr ∧ Below w.heap.size w wr ∧ Hid (R = glue acc (F.fr (n - acc.length) last r))) (fun _ _ v _ _ _ _ _ _ _ => n - (match v with | .slice _ k _ => k | _ => 0))
  case atStart => exact ⟨[], [], s, by simp, rfl, rfl, by simp, by omega, tnilRow _ _, Below.refl _ _, H0⟩
  case round =>
    obtain ⟨acc, last, r, hj, rfl, rfl, hl, hr, hrw, hbw, HJ⟩ := hrel
    obtain ⟨a0, c0, rfl, htx, _, _⟩ := tRow_txts hrw
    obtain ⟨j, hj2⟩ : ∃ j, j = acc.length := ⟨_, rfl⟩
    rw [← hj2] at hj HJ hrw ⊢
    have HJ2 := Lib.hid hj2
    clear hj2
    by_cases hlt : j < n
    · have hjI : (j : Int) < (n : Int) := by omega
      have HGB := Lib.hid (glue_bad acc (n - (j + 1)) last r hl)
      have HGO := Lib.hid (glue_on acc (n - (j + 1)) last r hl)
      rw [show n - (j + 1) + 1 = n - j by omega] at HGB HGO
      rw [← HJ.out] at HGB HGO
      have HERR := Lib.hid (fun (e : Nat) (he : e ≠ 0) (h : nextR r last = ([], [], e)) => show R = ([], e) by have := HGB.out; rw [h] at this; exact this he)
      have HRW := Lib.hid hrw
      have hv1 := rvof_any (str r) wr (by rw [str_size]; unfold maxLen; omega)
      rw [str_data] at hv1
      unfold ReadPost at hv1
      have hsr := str_size r
      have hb1 := V.rd_bad r
      obtain ⟨x, k, e, he⟩ : ∃ x k e, V.rd r = (x, k, e) := ⟨_, _, _, rfl⟩
      rw [he] at hv1 hb1
      simp only at hv1
      have HV1 := Lib.hid hv1
      clear hv1 hrw htx HGB
      by_cases h0 : e = 0
      · subst h0
        obtain ⟨hk1, hkl, _, hx, hk9, _⟩ := V.rd_ok _ _ _ he
        have hv2 := fun W => rvof_any (str (r.drop k)) W (by rw [str_size, List.length_drop]; unfold maxLen; omega)
        rw [str_data] at hv2
        unfold ReadPost at hv2
        have hb2 := V.rd_bad (r.drop k)
        have HXT := Lib.hid (show (str r).extract k (str r).size = str (r.drop k) by
          apply ByteArray.ext; apply Array.toList_inj.mp
          rw [show ((str r).extract k (str r).size).data.toList = (str r).data.toList.drop k from cut_data _ k]; rfl)
        obtain ⟨m, i, f, hf⟩ : ∃ m i f, V.rd (r.drop k) = (m, i, f) := ⟨_, _, _, rfl⟩
        rw [hf] at hv2 hb2
        rw [← HXT.out] at hv2
        simp only at hv2
        have HV2 := Lib.hid hv2
        have hkI : (k : Int) ≤ ((str r).size : Int) := by omega
        clear hv2 hb1
        by_cases h02 : f = 0
        · subst h02
          obtain ⟨hi1, hil, _, hm, hi9, _⟩ := V.rd_ok _ _ _ hf
          rw [List.length_drop] at hil
          have hto := told_ok he hf
          have HXT2 := Lib.hid (show (str r).extract (k + i) (str r).size = str (r.drop (k + i)) by
            apply ByteArray.ext; apply Array.toList_inj.mp
            rw [show ((str r).extract (k + i) (str r).size).data.toList = (str r).data.toList.drop (k + i) from cut_data _ _]; rfl)
          obtain ⟨q, hq⟩ : ∃ q, q = r.drop (k + i) := ⟨_, rfl⟩
          have hql : q.length ≤ 9223372036854775807 := by rw [hq, List.length_drop]; omega
          rw [← hq] at hto HXT2
          have hkiI : (k : Int) + (i : Int) ≤ ((str r).size : Int) := by omega
          have hki0 : (0 : Int) ≤ (k : Int) + (i : Int) := by omega
          have hwki : IntKind.i64.wrap ((k : Int) + (i : Int)) = (k : Int) + (i : Int) := by rw [IntKind.wrap_i64]; omega
          have hkin : ((k : Int) + (i : Int)).toNat = k + i := by omega
          have hsl := str_size last
          have hsq := str_size q
          have HSL := Lib.hid hsl
          have HSQ := Lib.hid hsq
          have hL : (str last).size ≤ 16 := by omega
          have hQ : (str q).size ≤ 9223372036854775807 := by omega
          clear hq hb2 hsl hsq hsr he hf
          by_cases h3 : last.length < x
          · have HRE := Lib.hid (HERR.out 3 (by decide) (next_e3 hto h3))
            have g3 : decide ((str last).size < x) = true := decide_eq_true (by have := HSL.out; omega)
            have hwl : IntKind.u64.wrap ((str last).size : Int) = ((str last).size : Int) := by rw [IntKind.wrap_u64]; omega
            generalize str r = S at *
            generalize str q = Q at *
            generalize str last = L at *
            clear HGO HERR HJ h3 hto
            go_wp2_with fail
            refine (HV1.out).mono ?_
            rintro e2 w1 ⟨rfl, hbl⟩
            go_wp2_with fail
            refine (HV2.out _).mono ?_
            rintro e3 w2 ⟨rfl, hbl2⟩
            have hbl3 := below_then hbl hbl2
            go_wp2_with fail
            go_ret2
            rw [HRE.out]
            exact TextsPost.none _ (below_then hbw hbl3)
          have g3 : decide ((str last).size < x) = false := decide_eq_false (by have := HSL.out; omega)
          have hwl : IntKind.u64.wrap ((str last).size : Int) = ((str last).size : Int) := by rw [IntKind.wrap_u64]; omega
          by_cases h4 : 16 < x + m
          · have HRE := Lib.hid (HERR.out 2 (by decide) (next_e4 hto h3 hl h4))
            by_cases h41 : 16 < m
            · have g4 : decide (16 < m) = true := decide_eq_true h41
              have g4' : decide ((16 : Int) < (m : Int)) = true := decide_eq_true (by omega)
              generalize str r = S at *
              generalize str q = Q at *
              generalize str last = L at *
              clear HGO HERR HJ hto h4 h3
              go_wp2_with fail
              refine (HV1.out).mono ?_
              rintro e2 w1 ⟨rfl, hbl⟩
              go_wp2_with fail
              refine (HV2.out _).mono ?_
              rintro e3 w2 ⟨rfl, hbl2⟩
              have hbl3 := below_then hbl hbl2
              go_wp2_with fail
              go_ret2
              rw [HRE.out]
              exact TextsPost.none _ (below_then hbw hbl3)
            · have g4 : decide (16 < m) = false := decide_eq_false h41
              have g4' : decide ((16 : Int) < (m : Int)) = false := decide_eq_false (by omega)
              have hwn : IntKind.u64.wrap ((x : Int) + (m : Int)) = (x : Int) + (m : Int) := by rw [IntKind.wrap_u64]; omega
              have g5 : decide ((16 : Int) < (x : Int) + (m : Int)) = true := decide_eq_true (by omega)
              generalize str r = S at *
              generalize str q = Q at *
              generalize str last = L at *
              clear HGO HERR HJ hto h4 h3
              go_wp2_with fail
              refine (HV1.out).mono ?_
              rintro e2 w1 ⟨rfl, hbl⟩
              go_wp2_with fail
              refine (HV2.out _).mono ?_
              rintro e3 w2 ⟨rfl, hbl2⟩
              have hbl3 := below_then hbl hbl2
              go_wp2_with fail
              go_ret2
              rw [HRE.out]
              exact TextsPost.none _ (below_then hbw hbl3)
          have g4 : decide (16 < m) = false := decide_eq_false (by omega)
          have g4' : decide ((16 : Int) < (m : Int)) = false := decide_eq_false (by omega)
          have hwn : IntKind.u64.wrap ((x : Int) + (m : Int)) = (x : Int) + (m : Int) := by rw [IntKind.wrap_u64]; omega
          have g5 : decide ((16 : Int) < (x : Int) + (m : Int)) = false := decide_eq_false (by omega)
          have hwm : IntKind.i64.wrap (m : Int) = (m : Int) := by rw [IntKind.wrap_i64]; omega
          have hwx : IntKind.i64.wrap (x : Int) = (x : Int) := by rw [IntKind.wrap_i64]; omega
          by_cases h5 : q.length < m
          · have HRE := Lib.hid (HERR.out 5 (by decide) (next_e5 hto h3 h4 h5))
            have hse : (str r).size - (k + i) = q.length := by
              have h1 := congrArg ByteArray.size HXT2.out
              rw [HSQ.out] at h1
              rw [← h1]; simp
            have g6 : decide ((str r).size - (k + i) < m) = true := decide_eq_true (by omega)
            have g6' : decide ((((str r).size - (k + i) : Nat) : Int) < (m : Int)) = true := decide_eq_true (by omega)
            clear hse
            generalize str r = S at *
            generalize str last = L at *
            clear HGO HERR HJ hto h4 h3 h5
            go_wp2_with fail
            refine (HV1.out).mono ?_
            rintro e2 w1 ⟨rfl, hbl⟩
            go_wp2_with fail
            refine (HV2.out _).mono ?_
            rintro e3 w2 ⟨rfl, hbl2⟩
            have hbl3 := below_then hbl hbl2
            go_wp2_with fail
            go_ret2
            rw [HRE.out]
            exact TextsPost.none _ (below_then hbw hbl3)
          have hse : (str r).size - (k + i) = q.length := by
            have h1 := congrArg ByteArray.size HXT2.out
            rw [HSQ.out] at h1
            rw [← h1]; simp
          have g6 : decide ((str r).size - (k + i) < m) = false := decide_eq_false (by omega)
          have g6' : decide ((((str r).size - (k + i) : Nat) : Int) < (m : Int)) = false := decide_eq_false (by omega)
          have HE6 := next_e6 hto h3 h4 h5
          have HSH := Lib.hid (fun W => sharedOf_any last (last.take x ++ q.take m) W (by unfold maxLen; omega) (by rw [List.length_append, List.length_take, List.length_take]; unfold maxLen; omega))
          have hq16 := F.sh_le_left last (last.take x ++ q.take m)
          have hxL : x ≤ (str last).size := by have := HSL.out; omega
          have hmQ : m ≤ (str q).size := by have := HSQ.out; omega
          have HCT := Lib.hid (show str (last.take x ++ q.take m) = (str last).extract 0 x ++ ((str r).extract (k + i) (str r).size).extract 0 m by
            rw [HXT2.out]
            apply ByteArray.ext; apply Array.toList_inj.mp
            simp [str])
          have htl : (last.take x ++ q.take m).length ≤ 16 := by rw [List.length_append, List.length_take, List.length_take]; omega
          have HXT3 := Lib.hid (show ((str r).extract (k + i) (str r).size).extract m ((str r).size - (k + i)) = str (q.drop m) by
            rw [hse, ← HSQ.out, HXT2.out]
            apply ByteArray.ext; apply Array.toList_inj.mp
            rw [show ((str q).extract m (str q).size).data.toList = (str q).data.toList.drop m from cut_data _ m]; rfl)
          have hdl : (q.drop m).length ≤ 9223372036854775807 := by rw [List.length_drop]; omega
          have hmS : m ≤ (str r).size - (k + i) := by omega
          have hxLI : (x : Int) ≤ ((str last).size : Int) := by omega
          have hmSI : (m : Int) ≤ (((str r).size - (k + i) : Nat) : Int) := by omega
          rw [HCT.out] at HSH
          have hc1 : ¬ 9223372036854775807 < min x (str last).size + min m ((str r).size - (k + i)) := by omega
          have hc2 : ¬ 9223372036854775807 < x + m := by omega
          clear hse
          generalize last.take x ++ q.take m = t at *
          generalize F.sh last t = z at *
          generalize q.drop m = q2 at *
          generalize str r = S at *
          generalize str q = Q at *
          generalize str last = L at *
          by_cases h6 : z ≠ x
          · rw [if_pos h6] at HE6
            have HRE := Lib.hid (HERR.out 1 (by decide) HE6)
            have g7 : ((z : Int) != (x : Int)) = true := by rw [bne_iff_ne]; omega
            clear HGO HERR HJ hto h4 h3 h5 h6 HE6
            go_wp2_with fail
            refine (HV1.out).mono ?_
            rintro e2 w1 ⟨rfl, hbl⟩
            go_wp2_with fail
            refine (HV2.out _).mono ?_
            rintro e3 w2 ⟨rfl, hbl2⟩
            have hbl3 := below_then hbl hbl2
            go_wp2_with fail
            go_quiet (fail)
            go_wp2_with fail
            refine (HSH.out _).mono ?_
            rintro e4 w4 ⟨rfl, d, rfl⟩
            go_wp2_with fail
            go_ret2
            rw [HRE.out]
            exact TextsPost.none 1 (below_drewN (below_then hbw hbl3) _)
          · rw [if_neg h6] at HE6
            have hGO := HGO.out
            rw [HE6] at hGO
            have HRN := Lib.hid (show R = glue (acc ++ [t]) (F.fr (n - (j + 1)) t q2) from hGO rfl)
            have g7 : ((z : Int) != (x : Int)) = false := by rw [bne_eq_false_iff_eq]; omega
            have hJ2 := HJ2.out
            have hlb : (acc.length + 1) * 16 ≤ 140737488355328 := by omega
            clear HGO HERR HJ hto h4 h3 h5 h6 HE6 hGO hJ2
            go_wp2_with fail
            refine (HV1.out).mono ?_
            rintro e2 w1 ⟨rfl, hbl⟩
            go_wp2_with fail
            refine (HV2.out _).mono ?_
            rintro e3 w2 ⟨rfl, hbl2⟩
            have hbl3 := below_then hbl hbl2
            have hrw2 := (HRW.out).below hbl3
            have hszw := (below_then hbw hbl3).size
            go_wp2_with fail
            go_quiet (fail)
            go_wp2_with fail
            refine (HSH.out _).mono ?_
            rintro e4 w4 ⟨rfl, hd⟩
            have hb4 : Below w2.heap.size w2 w4 := by obtain ⟨d, rfl⟩ := hd; exact below_drewN (below_drewN (Below.refl _ _) _) _
            clear hd
            have hrw4 := hrw2.below hb4
            have hbw4 := below_then (below_then hbw hbl3) hb4
            have HROW := Lib.hid hrw4
            rw [← HCT.out]
            clear hrw4 hrw2
            generalize hT : str t = T at *
            have hb5 : w.heap.size ≤ (w4.alloc (.cells #[.string T] 9)).heap.size := by have := hbw4.size; simp; omega
            go_wp2_with (at_builtin; refine wpList_append_onet rfl (.tmp 78) (.tmp 80) rfl w.heap.size _ acc rfl (HROW.out.alloc_ _) w4.heap.size t rfl (by rw [hT]; exact World.cell?_alloc_new _ _ _ _) hlb hb5 ?_)
            intro v' w5 hown5 hb5w
            have hbw5 : Below w.heap.size w w5 := (hbw4.alloc hbw4.size _).trans hb5w
            have HL2 := Lib.hid (show (acc ++ [t]).length = j + 1 by have h2 := HJ2.out; rw [h2]; simp)
            have HV := Lib.hid (show ∃ a c, v' = .slice a (j + 1) c by obtain ⟨a', c', e', _⟩ := tRow_txts hown5; exact ⟨a', c', by rw [e', HL2.out]⟩)
            go_wp2_with fail
            refine ⟨⟨acc ++ [t], t, q2, by rw [HL2.out]; omega, by rw [HXT3.out], by rw [hT], htl, hdl, hown5, hbw5, Lib.hid (by rw [HL2.out]; exact HRN.out)⟩, ?_⟩
            obtain ⟨a', c', e'⟩ := HV.out
            rw [e']
            show n - (j + 1) < n - j
            omega
        · have hfb : f = 5 ∨ f = 1 := by
            rcases hb2 with h | h | h
            · exact absurd h h02
            · exact Or.inl ((Prod.mk.injEq _ _ _ _).mp ((Prod.mk.injEq _ _ _ _).mp h).2).2
            · exact Or.inr ((Prod.mk.injEq _ _ _ _).mp ((Prod.mk.injEq _ _ _ _).mp h).2).2
          have HRE := Lib.hid (HERR.out f h02 (next_e2 he hf h02))
          have g3 : ((f : Int) != 0) = true := by rw [bne_iff_ne]; omega
          generalize str r = S at *
          clear HGO HERR hsr he hf HJ h02 hfb hb2
          go_wp2_with fail
          refine (HV1.out).mono ?_
          rintro e2 w1 ⟨rfl, hbl⟩
          go_wp2_with fail
          refine (HV2.out _).mono ?_
          rintro e3 w2 ⟨rfl, hbl2⟩
          have hbl3 := below_then hbl hbl2
          go_wp2_with fail
          go_ret2
          rw [HRE.out]
          exact TextsPost.none _ (below_then hbw hbl3)
      · have g3 : ((e : Int) != 0) = true := by rw [bne_iff_ne]; omega
        have HRE := Lib.hid (HERR.out e h0 (next_e1 he h0))
        generalize str r = S at *
        clear HGO HERR hsr hb1 he HJ
        go_wp2_with fail
        refine (HV1.out).mono ?_
        rintro e2 w1 ⟨rfl, hbl⟩
        go_wp2_with fail
        go_ret2
        rw [HRE.out]
        exact TextsPost.none _ (below_then hbw hbl)
    · obtain rfl : j = n := by omega
      rw [Nat.sub_self, glue_end] at HJ
      have hsr := str_size r
      by_cases hr0 : r = []
      · subst hr0
        have HRN := Lib.hid (show R = (acc, 0) by rw [HJ.out, if_pos rfl])
        have hne : decide (0 < (str []).size) = false := by rw [str_size]; rfl
        have hne2 : decide ((0 : Int) < ((str []).size : Int)) = false := by rw [str_size]; rfl
        clear HJ hrw hsr
        go_wp2_with fail
        go_ret2
        rw [HRN.out]
        exact ⟨a0, c0, by simp only; rw [← HJ2.out]; rfl, htx, hbw⟩
      · have HRN := Lib.hid (show R = ([], 1) by rw [HJ.out, if_neg hr0])
        have hpos := List.length_pos_iff.2 hr0
        have hne : decide (0 < (str r).size) = true := decide_eq_true (by omega)
        have hne2 : decide ((0 : Int) < ((str r).size : Int)) = true := decide_eq_true (by omega)
        generalize str r = S at *
        clear HJ hrw
        go_wp2_with fail
        go_ret2
        rw [HRN.out]
        exact TextsPost.none 1 hbw

set_option maxHeartbeats 400000 in
theorem fof_low (s : ByteArray) (n : Int) (w : World) (hn : n < 0) :
    Calls Try.prog 17 #[.string s, .int .i64 n] w (TextsPost ([], 3) w) := by
  go_enter Try.func17, Try.ntmps17
  go_wp2_with fail
  go_ret2
  exact TextsPost.none 3 (Below.refl _ _)
set_option maxHeartbeats 400000 in
theorem fof_high (s : ByteArray) (n : Int) (w : World) (h0 : ¬ n < 0) (hn : 64 < n) :
    Calls Try.prog 17 #[.string s, .int .i64 n] w (TextsPost ([], 2) w) := by
  go_enter Try.func17, Try.ntmps17
  go_wp2_with fail
  go_ret2
  exact TextsPost.none 2 (Below.refl _ _)

theorem fof_any (s : List UInt8) (n : Int) (w : World) (hs : s.length ≤ maxLen) :
    Calls Try.prog 17 #[.string (str s), .int .i64 n] w (TextsPost (freadR s n) w) := by
  unfold freadR
  by_cases h0 : n < 0
  · rw [if_pos h0]; exact fof_low _ n w h0
  rw [if_neg h0]
  by_cases h1 : 64 < n
  · rw [if_pos h1]; exact fof_high _ n w h0 h1
  rw [if_neg h1]
  have := fof_ok s n.toNat w hs (by omega)
  rwa [show ((n.toNat : Nat) : Int) = n by omega] at this
end Go.Proofs.Ytplhlnlonjlcaaa
