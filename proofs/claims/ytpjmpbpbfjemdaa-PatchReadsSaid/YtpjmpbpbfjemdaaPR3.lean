/- The walk of hypostyleref.PatchOf. -/
import Derived.Test.YtpjmpbpbfjemdaaPW6
import Derived.Test.YtpjmpbpbfjemdaaBitsU8
import Derived.Test.YtpjmpbpbfjemdaaVaryR6
namespace Go.Proofs.Ytpjmpbpbfjemdaa
open Go.RowKit
set_option linter.unusedVariables false

theorem rvof_any (s : ByteArray) (w : World) (hs : s.size ≤ maxLen) : Calls Try.prog 48 #[.string s] w (ReadPost (V.rd s.data.toList) w) := by
  by_cases h : s.size = 0
  · rw [data_empty s h]; exact vof_empty s w h
  · exact vof_any s w hs (by omega)
theorem AllPost.none_ {w w' : World} (er : Nat) (h : Below w.heap.size w w') : AllPost ([], er) w (.returned (.tuple #[.slice none 0 0, .int .i64 er])) w' :=
  ⟨Option.none, 0, rfl, Nums.nil _ _ _, h⟩
theorem readN_bad (s : List UInt8) (many er : Nat) (h : (P.head s many).2.2.2.2.2 = er) (he : er ≠ 0) : P.readN s many = ([], er) := by
  unfold P.readN; simp only [h, if_pos he]
theorem readN_ok (s : List UInt8) (many b w out : Nat) (p : List Nat) (u : List UInt8) (h : P.head s many = (b, w, p, u, out, 0)) : P.readN s many = P.fin b (P.mend w out p u 0) := by
  unfold P.readN; rw [h]; simp
theorem fin_bad (b : Nat) (m : List Nat) (er : Nat) (he : er ≠ 0) : P.fin b (m, er) = ([], er) := by
  unfold P.fin; rw [if_pos he]

/-- so far none is too much -/
def NoOver (b : Nat) (xs : List Nat) (j : Nat) : Prop := ∀ i, i < j → over b (xs.getD i 0) = false
theorem NoOver.all {b : Nat} {xs : List Nat} (h : NoOver b xs xs.length) : P.fin b (xs, 0) = (xs.map fun n => n + b, 0) := by
  have e : xs.any (over b) = false := by
    rw [List.any_eq_false]
    intro x hx
    obtain ⟨i, hi, he⟩ := List.mem_iff_getElem.1 hx
    have := h i hi
    simp only [List.getD, List.getElem?_eq_getElem hi, Option.getD_some] at this
    rw [← he, this]; simp
  show (if (0 : Nat) ≠ 0 then _ else if xs.any (over b) = true then _ else _) = _
  rw [if_neg (by simp), e, if_neg (by simp)]
theorem over_fin {b : Nat} {xs : List Nat} {i : Nat} (hi : i < xs.length) (h : over b (xs.getD i 0) = true) : P.fin b (xs, 0) = ([], 8) := by
  have e : xs.any (over b) = true := List.any_eq_true.2 ⟨_, getD_mem xs i hi, h⟩
  show (if (0 : Nat) ≠ 0 then _ else if xs.any (over b) = true then _ else _) = _
  rw [if_neg (by simp), e, if_pos rfl]
theorem NoOver.succ {b : Nat} {xs : List Nat} {j : Nat} (h : NoOver b xs j) (hj : over b (xs.getD j 0) = false) : NoOver b xs (j + 1) := by
  intro i hi
  by_cases e : i = j
  · rw [e]; exact hj
  · exact h i (by omega)

set_option maxHeartbeats 4000000 in
set_option maxRecDepth 100000 in
theorem rpof_in (s : ByteArray) (many : Nat) (w : World) (hs : s.size ≤ maxLen) (hm : many ≤ 64) :
    Calls Try.prog 34 #[.string s, .int .i64 many] w (AllPost (P.readN s.data.toList many) w) := by
  have gm1 : decide ((many : Int) < 0) = false := decide_eq_false (by omega)
  have gm2 : decide ((64 : Int) < (many : Int)) = false := decide_eq_false (by omega)
  have hmax := hs
  unfold maxLen at hmax
  have hv := fun w => rvof_any s w hs
  have hbad := V.rd_bad s.data.toList
  have hok := fun n k (h : V.rd s.data.toList = (n, k, 0)) => V.rd_ok s.data.toList n k h
  have hhd : P.head s.data.toList many = P.head s.data.toList many := rfl
  conv at hhd => rhs; unfold P.head
  obtain ⟨b, k, er, hr⟩ : ∃ b k er, V.rd s.data.toList = (b, k, er) := ⟨_, _, _, rfl⟩
  rw [hr] at hv hbad hok hhd
  simp only at hbad hhd
  have HV := Lib.hid hv
  clear hv hr
  by_cases he : er ≠ 0
  · rw [if_pos he] at hhd
    have HR := Lib.hid (readN_bad _ _ er (congrArg (fun x => x.2.2.2.2.2) hhd) he)
    have g1 : ((er : Int) != 0) = true := by rw [bne_iff_ne]; omega
    clear hhd hbad hok
    go_enter Try.func34, Try.ntmps34
    go_wp2_with fail
    refine (HV.out _).mono ?_
    rintro e1 w1 ⟨rfl, hb⟩
    go_wp2_with fail
    go_ret2
    rw [HR.out]
    exact AllPost.none_ er hb
  rw [if_neg he] at hhd
  obtain rfl : er = 0 := by omega
  obtain ⟨k1, k2, hx1, hb64, k9, hx2⟩ := hok b k rfl
  clear hx1 hx2
  rw [len_data] at k2
  clear he hbad hok
  have hkI : (k : Int) ≤ (s.size : Int) := by omega
  obtain ⟨T, hT⟩ : ∃ T, T = s.extract k s.size := ⟨_, rfl⟩
  have hdT : T.data.toList = s.data.toList.drop k := by rw [hT, cut_data]
  have hTs : T.size = s.size - k := by rw [hT]; simp
  rw [← hdT] at hhd
  rw [len_data] at hhd
  have hTm : T.size ≤ 9223372036854775807 := by omega
  by_cases h2 : T.size < 2
  · rw [if_pos h2] at hhd
    have HR := Lib.hid (readN_bad _ _ 5 (congrArg (fun x => x.2.2.2.2.2) hhd) (by decide))
    have g2 : decide (s.size - k < 2) = true := decide_eq_true (by omega)
    have g2' : decide (((s.size - k : Nat) : Int) < 2) = true := decide_eq_true (by omega)
    clear hhd hdT hT
    go_enter Try.func34, Try.ntmps34
    go_wp2_with fail
    refine (HV.out _).mono ?_
    rintro e1 w1 ⟨rfl, hb⟩
    go_wp2_with fail
    go_ret2
    rw [HR.out]
    exact AllPost.none_ 5 hb
  rw [if_neg h2] at hhd
  have g2 : decide (s.size - k < 2) = false := decide_eq_false (by omega)
  have g2' : decide (((s.size - k : Nat) : Int) < 2) = false := decide_eq_false (by omega)
  have ht0 : 0 < T.size := by omega
  have ht1 : 1 < T.size := by omega
  have ht0I : (0 : Int) < (T.size : Int) := by omega
  have ht1I : (1 : Int) < (T.size : Int) := by omega
  have ht2I : (2 : Int) ≤ (T.size : Int) := by omega
  have e0 : T.data.toList.getD 0 0 = T[0] := by simp [List.getD, ByteArray.getElem_eq_getElem_data, ht0]
  have e1 : T.data.toList.getD 1 0 = T[1] := by simp [List.getD, ByteArray.getElem_eq_getElem_data, ht1]
  rw [e0, e1] at hhd
  have hu1 := T[0].toNat_lt
  have hu2 := T[1].toNat_lt
  obtain ⟨wd, hwd⟩ : ∃ wd, wd = T[0].toNat := ⟨_, rfl⟩
  obtain ⟨ct, hct⟩ : ∃ ct, ct = T[1].toNat := ⟨_, rfl⟩
  rw [← hwd, ← hct] at hhd
  have hwb : wd < 256 := by omega
  have hcb : ct < 256 := by omega
  have HW1 := Lib.hid (show wrap64 (T[0].toNat : Int) = (wd : Int) by unfold wrap64; omega)
  have HW2 := Lib.hid (show wrap64 (T[1].toNat : Int) = (ct : Int) by unfold wrap64; omega)
  have HT := Lib.hid hT
  have HTS := Lib.hid hTs
  clear hwd hct e0 e1 hu1 hu2 h2 hdT hT hTs
  by_cases h64 : 64 < wd
  · rw [if_pos h64] at hhd
    have HR := Lib.hid (readN_bad _ _ 3 (congrArg (fun x => x.2.2.2.2.2) hhd) (by decide))
    have g3 : decide ((64 : Int) < (wd : Int)) = true := decide_eq_true (by omega)
    clear hhd
    go_enter Try.func34, Try.ntmps34
    go_wp2_with fail
    refine (HV.out _).mono ?_
    rintro e1 w1 ⟨rfl, hb⟩
    go_wp2_with fail
    rw [← HT.out]
    have hw1 := HW1.out
    have hw2 := HW2.out
    go_quiet (fail)
    rw [hw1, hw2]
    clear hw1 hw2
    go_wp2_with fail
    go_ret2
    rw [HR.out]
    exact AllPost.none_ 3 (below_drewN hb _)
  rw [if_neg h64] at hhd
  have g3 : decide ((64 : Int) < (wd : Int)) = false := decide_eq_false (by omega)
  have hwd64 : wd ≤ 64 := by omega
  have hmul := Nat.mul_le_mul hm hwd64
  have hzb : B.sz (many * wd) ≤ 512 := by unfold B.sz; omega
  obtain ⟨U, hU⟩ : ∃ U, U = T.extract 2 T.size := ⟨_, rfl⟩
  have hdU : U.data.toList = T.data.toList.drop 2 := by rw [hU, cut_data]
  have hUs : U.size = T.size - 2 := by rw [hU]; simp
  rw [← hdU] at hhd
  rw [len_data] at hhd
  have hmI : ((many : Int) * (wd : Int)) = ((many * wd : Nat) : Int) := by simp
  obtain ⟨M, hM⟩ : ∃ M, M = many * wd := ⟨_, rfl⟩
  rw [← hM] at hmI hhd hzb hmul
  have hwm : IntKind.i64.wrap ((many : Int) * (wd : Int)) = (M : Int) := by rw [hmI, IntKind.wrap_i64]; omega
  have hq1 : (((M : Int) + 7) / 8) = ((B.sz M : Nat) : Int) := by unfold B.sz; omega
  have hM0 : (0 : Int) ≤ (M : Int) + 7 := by omega
  by_cases h5 : U.size < B.sz M
  · rw [if_pos h5] at hhd
    have HR := Lib.hid (readN_bad _ _ 5 (congrArg (fun x => x.2.2.2.2.2) hhd) (by decide))
    rw [hUs] at h5
    generalize B.sz M = z at *
    have g5 : decide (T.size - 2 < z) = true := decide_eq_true h5
    clear hhd hdU hU hUs hM
    go_enter Try.func34, Try.ntmps34
    go_wp2_with fail
    refine (HV.out _).mono ?_
    rintro e1 w1 ⟨rfl, hb⟩
    go_wp2_with fail
    rw [← HT.out]
    have hw1 := HW1.out
    have hw2 := HW2.out
    go_quiet (fail)
    rw [hw1, hw2]
    clear hw1 hw2
    go_wp2_with fail
    go_ret2
    rw [HR.out]
    exact AllPost.none_ 5 (below_drewN hb _)
  rw [if_neg h5] at hhd
  have hd1 : (U.extract 0 (B.sz M)).data.toList = U.data.toList.take (B.sz M) := take_data _ _
  have hl1 : (U.data.toList.take (B.sz M)).length = B.sz M := by rw [List.length_take, len_data]; omega
  have hun := fun W => unpackOo_any (U.extract 0 (B.sz M)) (many : Int) (wd : Int) W (by rw [← len_data, hd1, hl1]; unfold maxLen; omega)
  rw [hd1, unpR_eq _ many wd hm hwd64 (by rw [hl1, hM]), ← hM] at hun
  have hdl : (B.dg wd many (B.leN (U.data.toList.take (B.sz M)))).length = many := B.dg_length _ _ _
  have hd2 : (U.extract (B.sz M) U.size).data.toList = U.data.toList.drop (B.sz M) := cut_data _ _
  have hd3 : (U.extract (B.sz M) U.size).size ≤ s.size := by have := HTS.out; simp; omega
  generalize B.dg wd many (B.leN (U.data.toList.take (B.sz M))) = pk at *
  generalize B.leN (U.data.toList.take (B.sz M)) / 2 ^ M = top at *
  have g5 : decide (T.size - 2 < B.sz M) = false := decide_eq_false (by omega)
  have hzU : B.sz M ≤ U.size := by omega
  have hzT : B.sz M ≤ T.size - 2 := by omega
  generalize B.sz M = z at *
  by_cases h6 : top ≠ 0
  · rw [if_pos h6] at hhd hun
    have HR := Lib.hid (readN_bad _ _ 1 (congrArg (fun x => x.2.2.2.2.2) hhd) (by decide))
    rw [hU] at hun
    have HUN := Lib.hid hun
    clear hhd hdU hd1 hl1 hd2 hd3 hun hdl hU hUs hzU hM h5
    go_enter Try.func34, Try.ntmps34
    go_wp2_with fail
    refine (HV.out _).mono ?_
    rintro e1 w1 ⟨rfl, hb⟩
    go_wp2_with fail
    rw [← HT.out]
    have hw1 := HW1.out
    have hw2 := HW2.out
    go_quiet (fail)
    rw [hw1, hw2]
    clear hw1 hw2
    go_wp2_with fail
    refine (HUN.out _).mono ?_
    rintro e3 w3 ⟨a3, c3, rfl, hr3, hb3⟩
    go_wp2_with fail
    go_ret2
    rw [HR.out]
    exact AllPost.none_ 1 (below_then (below_drewN hb _) hb3)
  rw [if_neg h6] at hhd hun
  have hrn := readN_ok _ _ _ _ _ _ _ hhd
  rw [← hd2] at hrn
  rw [hUs] at hrn hd3
  have HRN := Lib.hid hrn
  have HDL := Lib.hid hdl
  have HUN := Lib.hid (fun W => show Calls Try.prog 60 #[.string ((T.extract 2 T.size).extract 0 z), .int .i64 many, .int .i64 wd] W (fun e w' => ∃ a c, e = .returned (.tuple #[.slice a many c, .int .i64 0]) ∧ NumRow W.heap.size pk (.slice a many c) w' ∧ Below W.heap.size W w') from
    hU ▸ (hun W).mono fun e w' ⟨a, c, he, hr, hb⟩ => ⟨a, c, by rw [he]; simp only [hdl]; rfl, by simp only [hdl] at hr; exact hr, hb⟩)
  rw [hU] at HRN hd3
  generalize hR : P.readN s.data.toList many = R at *
  have HD3 := Lib.hid hd3
  clear hhd hdU hd1 hl1 hd2 hd3 hun hrn hdl hU hUs hzU hM h5 hR
  go_enter Try.func34, Try.ntmps34
  go_wp2_with fail
  refine (HV.out _).mono ?_
  rintro e1 w1 ⟨rfl, hb⟩
  go_wp2_with fail
  rw [← HT.out]
  have hw1 := HW1.out
  have hw2 := HW2.out
  go_quiet (fail)
  rw [hw1, hw2]
  clear hw1 hw2
  go_wp2_with fail
  refine (HUN.out _).mono ?_
  rintro e3 w3 ⟨a3, c3, rfl, hr3, hb3⟩
  have h3 := below_then (below_drewN hb nq) hb3
  have HR3 := Lib.hid (show NumRow w.heap.size pk (.slice a3 many c3) w3 from by
    refine ⟨hr3.1, ?_⟩
    rcases hr3.2 with hn | ⟨g, cap, cur, e1, e2, e3⟩
    · exact Or.inl hn
    · exact Or.inr ⟨g, cap, cur, e1, by have := hb.size; have : (w1.drewN nq).heap.size = w1.heap.size := by simp
                                        omega, e3⟩)
  clear hr3
  go_wp2_with fail
  go_loopw [0, 13, 14] (fun sv bf i wr => ∃ (j nx : Nat) (t : ByteArray) (lb : Int) (xs : List Nat), j ≤ ct ∧ i = .int .i64 j ∧ sv = .string t ∧ bf = .int .i64 lb ∧ Hid (lb = (nx : Int) - 1) ∧ Hid (P.fin b (P.mend wd (ct - j) xs t.data.toList nx) = R) ∧ t.size ≤ s.size ∧ Hid (xs.length = many) ∧ -1 ≤ lb ∧ lb ≤ 255 ∧ NumRow w.heap.size xs (.slice a3 many c3) wr ∧ Below w.heap.size w wr) (fun _ _ i _ => ct - (intOf i).toNat)
  case atStart => exact ⟨0, 0, _, -1, pk, by omega, rfl, rfl, rfl, Lib.hid rfl, Lib.hid HRN.out.symm, HD3.out, HDL, by omega, by omega, HR3.out, h3⟩
  case round =>
    obtain ⟨j, nx, t, lb, xs, hj, rfl, rfl, rfl, HBN, HM, hts, HXL, hb1, hb2, hnr, hbw⟩ := hrel
    have hBw := hbw.size
    by_cases hlt : j < ct
    · have hjI : (j : Int) < (ct : Int) := by omega
      obtain ⟨q, hq⟩ : ∃ q, ct - j = q + 1 := ⟨ct - j - 1, by omega⟩
      have hM := HM.out
      rw [hq] at hM
      have HQ := Lib.hid hq
      clear hq HM
      by_cases h0 : t.size = 0
      · have he : ((t.size : Int) == 0) = true := by rw [beq_iff_eq]; omega
        rw [data_empty t h0, mend_nil, fin_bad _ _ _ (by decide)] at hM
        have HM := Lib.hid hM
        clear hM h0
        go_wp2_with fail
        go_ret2
        rw [← HM.out]
        exact AllPost.none_ 5 hbw
      · have he : ((t.size : Int) == 0) = false := by rw [beq_eq_false_iff_ne]; omega
        have hp : 0 < t.size := by omega
        have hpI : (0 : Int) < (t.size : Int) := by omega
        obtain ⟨tl, hd⟩ := head_cons t hp
        have hdt : (t.extract 1 t.size).data.toList = tl := by rw [cut_data, hd]; rfl
        rw [hd] at hM
        unfold P.mend at hM
        have hu8 := t[0].toNat_lt
        obtain ⟨cc, hcc⟩ : ∃ cc, cc = t[0].toNat := ⟨_, rfl⟩
        have hc256 : cc < 256 := by omega
        have HW := Lib.hid (show wrap64 (t[0].toNat : Int) = (cc : Int) by unfold wrap64; omega)
        rw [← hcc] at hM
        have hsl1 : (1 : Int) ≤ (t.size : Int) := by omega
        have HDT := Lib.hid hdt
        clear hcc hd hdt hu8
        by_cases h1 : xs.length ≤ cc
        · rw [if_pos h1, fin_bad _ _ _ (by decide)] at hM
          have HM := Lib.hid hM
          rw [HXL.out] at h1
          have g1 : decide (many ≤ cc) = true := decide_eq_true h1
          clear hM
          have hw64 := HW.out
          go_wp2_with fail
          go_ret2
          rw [← HM.out]
          exact AllPost.none_ 3 hbw
        rw [if_neg h1] at hM
        have hcN : cc < many := by have := HXL.out; omega
        have g1 : decide (many ≤ cc) = false := decide_eq_false (by omega)
        have hcNI : (cc : Int) < (many : Int) := by omega
        have hcx : cc < xs.length := by omega
        clear h1
        by_cases h2 : cc < nx
        · rw [if_pos h2, fin_bad _ _ _ (by decide)] at hM
          have HM := Lib.hid hM
          have g2 : decide ((cc : Int) ≤ lb) = true := decide_eq_true (by have := HBN.out; omega)
          clear hM
          have hw64 := HW.out
          go_wp2_with fail
          go_ret2
          rw [← HM.out]
          exact AllPost.none_ 4 hbw
        rw [if_neg h2] at hM
        have hbc : lb < (cc : Int) := by have := HBN.out; omega
        have g2 : decide ((cc : Int) ≤ lb) = false := decide_eq_false (by omega)
        obtain ⟨g, rfl, hclr, hgB, hgw⟩ := hnr.form (fun e => by rw [e] at hcx; simp at hcx)
        have ck := hnr.cell cc hcx
        have fk := hnr.free cc
        clear h2 hclr
        by_cases h3 : xs.getD cc 0 ≠ 0
        · rw [if_pos h3, fin_bad _ _ _ (by decide)] at hM
          have HM := Lib.hid hM
          generalize xs.getD cc 0 = x at *
          have g3 : ((x : Int) != 0) = true := by rw [bne_iff_ne]; omega
          clear hM
          have hw64 := HW.out
          go_wp2_with fail
          go_ret2
          rw [← HM.out]
          exact AllPost.none_ 1 hbw
        rw [if_neg h3] at hM
        generalize xs.getD cc 0 = x at *
        have g3 : ((x : Int) != 0) = false := by rw [bne_eq_false_iff_eq]; omega
        clear h3
        have hrd := fun W => rvof_any (t.extract 1 t.size) W (by simp; unfold maxLen; omega)
        rw [HDT.out] at hrd
        have hbad := V.rd_bad tl
        have hok := fun n k (h : V.rd tl = (n, k, 0)) => V.rd_ok tl n k h
        generalize V.rd tl = r at *
        obtain ⟨n, kk, er⟩ := r
        simp only at hM hbad
        have HRD := Lib.hid hrd
        clear hrd
        by_cases h4 : er ≠ 0
        · rw [if_pos h4, fin_bad _ _ _ h4] at hM
          have HM := Lib.hid hM
          have g4 : ((er : Int) != 0) = true := by rw [bne_iff_ne]; omega
          clear hM hbad hok
          have hw64 := HW.out
          go_wp2_with fail
          refine (HRD.out _).mono ?_
          rintro e w2 ⟨rfl, hbb⟩
          go_wp2_with fail
          go_ret2
          rw [← HM.out]
          exact AllPost.none_ er (below_then hbw hbb)
        rw [if_neg h4] at hM
        obtain rfl : er = 0 := by omega
        obtain ⟨kk1, kk2, hz1, kkn, kk9, hz2⟩ := hok n kk rfl
        clear h4 hbad hok hz1 hz2
        by_cases h5 : B.bl n ≤ wd
        · rw [if_pos h5, fin_bad _ _ _ (by decide)] at hM
          have HM := Lib.hid hM
          have hpf := fun W => fits_any n wd W kkn hwd64
          rw [decide_eq_true h5] at hpf
          have HPF := Lib.hid hpf
          clear hM h5 hpf
          have hw64 := HW.out
          go_wp2_with fail
          refine (HRD.out _).mono ?_
          rintro e w2 ⟨rfl, hbb⟩
          go_wp2_with fail
          refine (HPF.out _).mono ?_
          rintro e w4 ⟨rfl, rfl⟩
          go_wp2_with fail
          go_ret2
          rw [← HM.out]
          exact AllPost.none_ 1 (below_then hbw hbb)
        rw [if_neg h5] at hM
        have HM := Lib.hid hM
        have hpf := fun W => fits_any n wd W kkn hwd64
        rw [decide_eq_false h5] at hpf
        have HPF := Lib.hid hpf
        have htk : tl.length + 1 = t.size := by have h := HDT.out; have := congrArg List.length h; rw [len_data] at this; simp at this; omega
        have hks : 1 + kk ≤ t.size := by omega
        have hksI : (1 : Int) + (kk : Int) ≤ (t.size : Int) := by omega
        have hkkI : IntKind.i64.wrap ((1 : Int) + (kk : Int)) = ((1 + kk : Nat) : Int) := by rw [IntKind.wrap_i64]; omega
        have hdk : (t.extract (1 + kk) t.size).data.toList = tl.drop kk := by
          rw [cut_data, ← List.drop_drop, ← HDT.out, cut_data]
        have HDK := Lib.hid hdk
        have hNR := Lib.hid hnr
        clear hM h5 hdk hnr htk hpf
        have hw64 := HW.out
        go_wp2_with fail
        refine (HRD.out _).mono ?_
        rintro e w2 ⟨rfl, hbb⟩
        go_wp2_with fail
        refine (HPF.out _).mono ?_
        rintro e w4 ⟨rfl, rfl⟩
        have hc2 : w2.cell? ⟨g, cc, none⟩ = some (.int .u64 (x : Int)) := (hbb.cell (p := ⟨g, cc, none⟩) hgw).trans ck
        have hf2 : w2.frozen? ⟨g, cc, none⟩ = false := (hbb.frozen (p := ⟨g, cc, none⟩) hgw).trans fk
        clear hw64
        have HN2 := Lib.hid ((hNR.out.below hbb).put cc n)
        have HB2 := Lib.hid ((below_then hbw hbb).setCell (p := ⟨g, cc, none⟩) hgB (.int .u64 (n : Int)))
        have HXL2 := Lib.hid (show (xs.set cc n).length = many by rw [List.length_set]; exact HXL.out)
        have HM2 := Lib.hid (show P.fin b (P.mend wd (ct - (j + 1)) (xs.set cc n) (t.extract (1 + kk) t.size).data.toList (cc + 1)) = R by rw [HDK.out, show ct - (j + 1) = q by have := HQ.out; omega]; exact HM.out)
        have hsz2 : (t.extract (1 + kk) t.size).size ≤ s.size := by simp; omega
        go_wp2_with fail
        exact ⟨⟨j + 1, cc + 1, _, (cc : Int), xs.set cc n, by omega, by go_num, rfl, rfl, Lib.hid (by omega), HM2, hsz2, HXL2, by omega, by omega, HN2.out, HB2.out⟩, by simp [intOf]; omega⟩
    · obtain rfl : j = ct := by omega
      have hM := HM.out
      rw [Nat.sub_self] at hM
      by_cases h0 : t.size = 0
      · have he : decide ((0 : Int) < (t.size : Int)) = false := decide_eq_false (by omega)
        have heN : ¬ 0 < t.size := by omega
        rw [data_empty t h0, mend_end0] at hM
        have HM := Lib.hid hM
        have HST := Lib.hid (fun j h => add_step xs b j h)
        have HAT := Lib.hid (fun j h => add_at xs b j h)
        have HLN := Lib.hid (fun j h => add_len xs b j h)
        have HNA := Lib.hid (fun (h : NoOver b xs xs.length) => h.all)
        have HOF := Lib.hid (fun i (hi : i < xs.length) (h : over b (xs.getD i 0) = true) => over_fin hi h)
        have H0 := Lib.hid (show (xs.take 0).map (fun n => n + b) ++ xs.drop 0 = xs by simp)
        have HEND := Lib.hid (show (xs.take xs.length).map (fun n => n + b) ++ xs.drop xs.length = xs.map fun n => n + b by simp)
        have HML := Lib.hid (show (xs.map fun n => n + b).length = xs.length by simp)
        have HMB := Lib.hid (show 18446744073709551615 - (18446744073709551615 - b) = b by omega)
        have hsub : IntKind.u64.wrap ((18446744073709551615 : Int) - (b : Int)) = ((18446744073709551615 - b : Nat) : Int) := by rw [IntKind.wrap_u64]; omega
        have hsub2 : (18446744073709551615 : Int) - (b : Int) = ((18446744073709551615 - b : Nat) : Int) := by omega
        have HOV := Lib.hid (fun n => show over b n = decide (18446744073709551615 - b < n) from rfl)
        obtain ⟨mb, hmb⟩ : ∃ mb, mb = 18446744073709551615 - b := ⟨_, rfl⟩
        rw [← hmb] at hsub hsub2 HOV
        have HMB2 := Lib.hid (show mb + b = 18446744073709551615 by omega)
        clear hM h0 hmb HMB hb1 hb2 hts
        have hxl := HXL.out
        have hnr2 := hnr
        rw [← H0.out] at hnr2
        obtain ⟨wq, hwq⟩ : ∃ wq, wq = wr := ⟨_, rfl⟩
        clear hxl hwq wq
        go_wp2_with fail
        go_loopw [19] (fun i wr2 => ∃ p : Nat, p ≤ many ∧ i = .int .i64 p ∧ Hid (NoOver b xs p) ∧ NumRow w.heap.size ((xs.take p).map (fun n => n + b) ++ xs.drop p) (.slice a3 many c3) wr2 ∧ Below w.heap.size w wr2) (fun i _ => many - (intOf i).toNat)
        case atStart => exact ⟨0, by omega, rfl, Lib.hid (fun i hi => absurd hi (by omega)), hnr2, hbw⟩
        case round =>
          obtain ⟨p, hp, rfl, HNO, hnrp, hbwp⟩ := hrel
          by_cases hpl : p < many
          · have hpx : p < xs.length := by rw [HXL.out]; exact hpl
            have hln := HLN.out p (by omega)
            obtain ⟨g, rfl, hclr, hgB, hgw⟩ := hnrp.form (fun e => by rw [e] at hln; simp at hln; omega)
            have cp := hnrp.cell p (by omega)
            rw [HAT.out p hpx] at cp
            have fp := hnrp.free p
            have HS := Lib.hid (HST.out p hpx)
            have HSU := Lib.hid (fun h => HNO.out.succ h)
            have HOP := Lib.hid (HOF.out p hpx)
            generalize xs.getD p 0 = x at *
            generalize (xs.take p).map (fun n => n + b) ++ xs.drop p = acc at *
            have hpI : (p : Int) < (many : Int) := by omega
            rw [HOV.out x] at HSU HOP
            clear hclr
            by_cases hov : mb < x
            · have g6 : decide (mb < x) = true := decide_eq_true hov
              have hfin := HOP.out (by rw [g6])
              rw [HM.out] at hfin
              have HF := Lib.hid hfin
              clear hfin hov hln
              go_wp2_with fail
              go_ret2
              rw [HF.out]
              exact AllPost.none_ 8 hbwp
            · have g6 : decide (mb < x) = false := decide_eq_false hov
              have HN2 := Lib.hid (HSU.out (by rw [g6]))
              have hxy : x + b < 18446744073709551616 := by have := HMB2.out; omega
              have hwr : IntKind.u64.wrap ((x : Int) + (b : Int)) = ((x + b : Nat) : Int) := by rw [IntKind.wrap_u64]; omega
              have hw2 : (x : Int) + (b : Int) = ((x + b : Nat) : Int) := by omega
              generalize x + b = y at *
              have HNR2 := Lib.hid (hnrp.put p y)
              have HBW2 := Lib.hid (hbwp.setCell (p := ⟨g, p, none⟩) hgB (.int .u64 (y : Int)))
              clear hov hln hnrp
              go_wp2_with fail
              exact ⟨⟨p + 1, by omega, by go_num, HN2, by rw [← HS.out]; exact HNR2.out, HBW2.out⟩, by simp [intOf]; omega⟩
          · obtain rfl : p = many := by omega
            have hno := HNO.out
            rw [← HXL.out] at hno hnrp
            rw [HEND.out] at hnrp
            have hres := HNA.out hno
            rw [HM.out] at hres
            have HRS := Lib.hid hres
            obtain ⟨a', c', hev, hnum⟩ := numRow_nums hnrp
            obtain ⟨rfl, rfl⟩ : a3 = a' ∧ c3 = c' := by injection hev with h1 h2 h3; exact ⟨h1, h3⟩
            have HNM := Lib.hid hnum
            have HML2 := Lib.hid (show (xs.map fun n => n + b).length = p by rw [HML.out, HXL.out])
            clear hev hnrp hnum hres hno
            go_wp2_with fail
            go_ret2
            rw [HRS.out]
            exact ⟨a3, c3, by rw [HML2.out]; rfl, HNM.out, hbwp⟩
      · have he : decide ((0 : Int) < (t.size : Int)) = true := decide_eq_true (by omega)
        have heN : 0 < t.size := by omega
        rw [mend_end1 _ _ _ _ (data_ne t h0), fin_bad _ _ _ (by decide)] at hM
        have HM := Lib.hid hM
        clear hM h0
        go_wp2_with fail
        go_ret2
        rw [← HM.out]
        exact AllPost.none_ 1 hbw

theorem rpof_any (s : ByteArray) (many : Int) (w : World) (hs : s.size ≤ maxLen) :
    Calls Try.prog 34 #[.string s, .int .i64 many] w (AllPost (P.read s.data.toList many) w) := by
  unfold P.read
  by_cases h0 : many < 0
  · rw [if_pos h0]
    have g1 : decide (many < 0) = true := decide_eq_true h0
    go_enter Try.func34, Try.ntmps34
    go_wp2_with fail
    go_ret2
    exact AllPost.none_ 3 (Below.refl _ _)
  rw [if_neg h0]
  obtain ⟨m, rfl⟩ : ∃ m : Nat, many = m := ⟨many.toNat, by omega⟩
  by_cases h1 : 64 < (m : Int)
  · rw [if_pos h1]
    have g1 : decide ((m : Int) < 0) = false := decide_eq_false h0
    have g2 : decide ((64 : Int) < (m : Int)) = true := decide_eq_true h1
    go_enter Try.func34, Try.ntmps34
    go_wp2_with fail
    go_ret2
    exact AllPost.none_ 2 (Below.refl _ _)
  rw [if_neg h1, Int.toNat_natCast]
  exact rpof_in s m w hs (by omega)
end Go.Proofs.Ytpjmpbpbfjemdaa
