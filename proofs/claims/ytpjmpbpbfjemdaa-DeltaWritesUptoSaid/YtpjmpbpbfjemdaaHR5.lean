/- The walk of hypostyleref.HybridOf. -/
import Derived.Test.YtpjmpbpbfjemdaaHR4
namespace Go.Proofs.Ytpjmpbpbfjemdaa
open Go.RowKit
set_option linter.unusedVariables false

set_option maxHeartbeats 8000000 in
set_option maxRecDepth 100000 in
theorem hof_in (s : ByteArray) (many wide : Nat) (w : World) (hs : s.size ≤ maxLen) (hw : wide ≤ 64) (hm : many ≤ 64) :
    Calls Try.prog 49 #[.string s, .int .i64 many, .int .i64 wide] w (AllPost (H.read s.data.toList many wide) w) := by
  obtain ⟨i0, hi, hz0, hz1, hz2⟩ := info_parts info_u64
  have g1 : decide ((wide : Int) < 0) = false := by simp
  have g2 : decide ((64 : Int) < (wide : Int)) = false := by simp; omega
  have g3 : decide ((many : Int) < 0) = false := by simp
  obtain ⟨R, hR⟩ : ∃ R, R = H.read s.data.toList many wide := ⟨_, rfl⟩
  have HR := Lib.hid hR
  rw [← hR]
  have hmax := hs
  unfold maxLen at hmax
  clear hR
  go_enter Try.func49, Try.ntmps49
  go_wp2_with fail
  go_loopw [0, 8, 9, 10, 11, 12, 13, 14, 15, 16, 17, 18] (fun s' v _ _ _ _ _ _ _ _ _ _ wr => ∃ (t : ByteArray) (xs : List Nat), s' = .string t ∧ t.size ≤ s.size ∧ xs.length ≤ many ∧ NumRow w.heap.size xs v wr ∧ Hid (R = H.pre xs (H.read t.data.toList (many - xs.length) wide)) ∧ Below w.heap.size w wr) (fun _ v _ _ _ _ _ _ _ _ _ _ _ => many - lenS v)
  case atStart => exact ⟨s, [], rfl, Nat.le_refl _, by simp, ⟨rfl, Or.inl ⟨rfl, rfl⟩⟩, Lib.hid (by rw [H.pre_nil _ (H.read_err _ _ _)]; exact HR.out), Below.refl _ _⟩
  case round =>
    obtain ⟨t, xs, rfl, hts, hxm, hrow, HK, hbw⟩ := hrel
    obtain ⟨a, c, rfl, hnum, hlc, hcm⟩ := numRow_numsc hrow
    by_cases hlt : xs.length < many
    · obtain ⟨left, hleft⟩ : ∃ left, left = many - xs.length := ⟨_, rfl⟩
      have hsub : ((many : Int) - (xs.length : Int)) = (left : Int) := by omega
      have hl1 : 1 ≤ left ∧ left ≤ 64 := by omega
      have hlm : xs.length + left = many := by omega
      rw [← hleft] at HK
      clear hleft
      have hvo := fun w => vof_all t w (by omega)
      have HRE := Lib.hid (fun e h he => read_er R xs t.data.toList left wide e hl1.1 HK.out h he)
      have HRG := Lib.hid (fun en p h => read_go R xs t.data.toList left wide en p hl1.1 HK.out h)
      by_cases hrd : (V.rd t.data.toList).2.2 = 0
      · obtain ⟨h, k, hr⟩ : ∃ h k, V.rd t.data.toList = (h, k, 0) := ⟨_, _, by rw [← hrd]⟩
        obtain ⟨k1, k2, _, k4, k5, _⟩ := V.rd_ok _ _ _ hr
        rw [len_data] at k2
        rw [hr] at hvo
        have hfo := first_ok t.data.toList left wide h k hr
        unfold H.firstL at hfo
        rw [len_data] at hfo
        obtain ⟨t', ht'⟩ : ∃ t', t' = t.extract k t.size := ⟨_, rfl⟩
        have htd : t'.data.toList = t.data.toList.drop k := by rw [ht', cut_data]
        have hts' : t'.size = t.size - k := by rw [ht']; simp
        have hkt : (k : Int) ≤ (t.size : Int) := by omega
        have HVO := Lib.hid hvo
        have HTD := Lib.hid htd
        have HT' := Lib.hid ht'
        obtain ⟨NB, hNB⟩ : ∃ NB, NB = H.nb left := ⟨_, rfl⟩
        have hNB8 : NB ≤ 8 := by rw [hNB]; unfold H.nb; omega
        have hq7 : (((left : Int) + 7) / 8) = (NB : Int) := by rw [hNB]; unfold H.nb; omega
        have hwl : IntKind.u64.wrap (left : Int) = (left : Int) := by rw [IntKind.wrap_u64]; omega
        have hwn : IntKind.u64.wrap (NB : Int) = (NB : Int) := by rw [IntKind.wrap_u64]; omega
        have HNB := Lib.hid hNB
        clear hvo htd ht' hrd hNB
        by_cases hf : H.fit h left = 0
        · rw [if_neg (by simp [hf])] at hfo
          unfold H.fit at hf
          by_cases hm0 : h / 2 = 0
          · rw [if_pos hm0] at hf; omega
          rw [if_neg hm0] at hf
          have g4 : decide ((h : Int) < 2) = false := by simp; omega
          by_cases hp : h % 2 = 1
          · rw [if_pos hp] at hf
            by_cases hq : H.nb left < h / 2
            · rw [if_pos hq] at hf; omega
            · clear hf
              obtain ⟨m, hm2⟩ : ∃ m, m = h / 2 := ⟨_, rfl⟩
              obtain ⟨T, hT⟩ : ∃ T, T = m * 8 := ⟨_, rfl⟩
              have hmb : 1 ≤ m ∧ m ≤ NB := by rw [HNB.out]; omega
              have hTb : 8 ≤ T ∧ T ≤ 64 := by omega
              have hheld : H.held h = T := by unfold H.held; rw [if_pos hp, hT, hm2]
              have g5 : ((h : Int) % 2 == 0) = false := by rw [beq_eq_false_iff_ne]; omega
              have g6 : ((h : Int) % 2 == 1) = true := by rw [beq_iff_eq]; omega
              have g7 : decide ((NB : Int) < (h : Int) / 2) = false := by simp; omega
              have hhm : ((h : Int) / 2) = (m : Int) := by omega
              have hm8 : ((m : Int) * 8) = (T : Int) := by omega
              have hwt : IntKind.u64.wrap (T : Int) = (T : Int) := by rw [IntKind.wrap_u64]; omega
              have hwt2 : IntKind.i64.wrap (T : Int) = (T : Int) := by rw [IntKind.wrap_i64]; omega
              obtain ⟨M, hM⟩ : ∃ M, M = T * wide := ⟨_, rfl⟩
              have hM4 : M ≤ 64 * 64 := by rw [hM]; exact Nat.mul_le_mul hTb.2 hw
              obtain ⟨Z, hZ⟩ : ∃ Z, Z = B.sz M := ⟨_, rfl⟩
              have hZb : Z ≤ 512 ∧ M ≤ 8 * Z ∧ 8 * Z ≤ M + 7 := by rw [hZ]; unfold B.sz; omega
              obtain ⟨Z8, hZ8⟩ : ∃ Z8, Z8 = 8 * Z := ⟨_, rfl⟩
              rw [hheld, ← hM, ← hZ] at hfo
              have hq6 : ((T : Int) * (wide : Int)) = (M : Int) := by rw [hM]; simp
              have hq3 : (((M : Int) + 7) / 8) = (Z : Int) := by rw [hZ]; unfold B.sz; omega
              have hq8 : ((8 : Int) * (Z : Int)) = (Z8 : Int) := by omega
              have hZ8b : M ≤ Z8 ∧ Z8 ≤ M + 7 := by omega
              have HZ8 := Lib.hid hZ8
              have HM := Lib.hid hM
              have HTT := Lib.hid hT
              have HHM := Lib.hid hm2
              clear hZ hZ8 hm2 hM hT
              by_cases hsh : t'.size < Z
              · have HE := Lib.hid (HRE.out 5 (by rw [hfo, if_pos (by omega)]) (by omega))
                clear hfo hnum hrow
                go_wp2_with fail
                refine (HVO.out _).mono ?_
                rintro e w1 ⟨rfl, hb1⟩
                go_wp2_with fail
                go_ret2
                rw [HE.out]
                exact ⟨none, 0, rfl, Nums.nil _ _ _, below_then hbw hb1⟩
              · rw [if_neg (by omega)] at hfo
                obtain ⟨X, hX⟩ : ∃ X, X = B.leN ((t.data.toList.drop k).take Z) := ⟨_, rfl⟩
                unfold H.body at hfo
                rw [← hX, hheld, ← HM.out , if_neg (show ¬ h % 2 = 0 by omega)] at hfo
                have hdl : Z ≤ (t.data.toList.drop k).length := by rw [List.length_drop, len_data]; omega
                have hdt : ((t.data.toList.drop k).take Z).length = Z := by rw [List.length_take]; omega
                have HBT := Lib.hid (fun p (hp : p < Z8) w => show Calls Try.prog 70 #[.string t', .int .i64 p] w (fun e w' => e = .returned (.int .u64 ((X / 2 ^ p % 2 : Nat) : Int)) ∧ w = w') by
                  have := HZ8.out
                  have h1 := textBit_any t' p w (by omega) (by omega)
                  rw [HTD.out, bit_take _ Z p hdl (by omega), ← hX] at h1
                  exact h1)
                have HBA := Lib.hid (fun f (hf : f + wide ≤ Z8) w => show Calls Try.prog 71 #[.string t', .int .i64 f, .int .i64 wide] w (fun e w' => e = .returned (.int .u64 ((X / 2 ^ f % 2 ^ wide : Nat) : Int)) ∧ w = w') by
                  have := HZ8.out
                  have h1 := bitsAt_any t' f wide w hw (by omega) (by omega)
                  rw [HTD.out, bits_take _ Z f wide hdl (by omega), ← hX] at h1
                  exact h1)
                have HTOP := Lib.hid (show X / 2 ^ M % 2 ^ (Z8 - M) = 0 → X / 2 ^ M = 0 from fun h => by
                  rw [hX] at h ⊢; rw [HZ8.out] at h
                  exact top_take _ Z M hdt (by have := HZ8.out; omega) h)
                have HFO := Lib.hid hfo
                have HBAD := Lib.hid (show X / 2 ^ M ≠ 0 → R = ([], 1) from fun hx => HRE.out 1 (by rw [hfo, if_pos hx]) (by omega))
                have hd1 : decide (NB < m) = false := by simp; omega
                have hd2 : decide (t.size - k < Z) = false := by simp; omega
                clear hfo hX hdl hdt hheld hp hm0
                go_wp2_with fail
                refine (HVO.out _).mono ?_
                rintro e w1 ⟨rfl, hb1⟩
                have hbw1 := below_then hbw hb1
                have hrow1 : NumRow w.heap.size xs (.slice a xs.length c) w1 := row_below hrow hb1
                clear hrow hnum
                go_wp2_with fail
                rw [← HT'.out]
                simp only [hq3, hq7]
                go_loop [15] (fun i => ∃ p : Nat, M ≤ p ∧ p ≤ Z8 ∧ i = .int .i64 p ∧ Hid (X / 2 ^ M % 2 ^ (p - M) = 0)) (fun i => Z8 - (intOf i).toNat)
                case atStart => exact ⟨M, Nat.le_refl _, by omega, rfl, Lib.hid (by simp [Nat.mod_one])⟩
                case round =>
                  obtain ⟨p, hp1, hp2, rfl, HL⟩ := hrel
                  by_cases hpz : p < Z8
                  · have htb := HBT.out p hpz w1
                    have hls := low_step X M p hp1 HL.out
                    have hbo := bit_one X M p hp1
                    have hb2 : X / 2 ^ p % 2 < 2 := by omega
                    generalize X / 2 ^ p % 2 = bt at *
                    have HTBp := Lib.hid htb
                    clear htb
                    by_cases hone : bt = 1
                    · subst hone
                      have HE := Lib.hid (HBAD.out (hbo rfl))
                      clear hbo hls
                      go_wp2_with fail
                      refine (HTBp.out).mono ?_
                      rintro e w2 ⟨rfl, rfl⟩
                      go_wp2_with fail
                      go_ret2
                      rw [HE.out]
                      exact ⟨none, 0, rfl, Nums.nil _ _ _, hbw1⟩
                    · obtain rfl : bt = 0 := by omega
                      have HLS := Lib.hid (hls rfl)
                      clear hls hbo
                      go_wp2_with fail
                      refine (HTBp.out).mono ?_
                      rintro e w2 ⟨rfl, rfl⟩
                      go_wp2_with fail
                      exact ⟨⟨p + 1, by omega, by omega, by go_num, HLS⟩, by simp [intOf]; omega⟩
                  · obtain rfl : p = Z8 := by omega
                    have HX0 := Lib.hid (HTOP.out HL.out)
                    have hgo := fun hz => HRG.out _ _ (HFO.out.trans ((if_neg (by rw [HX0.out]; simp)).trans (if_neg hz)))
                    have hbad := fun hz => HRE.out 1 (by rw [HFO.out, if_neg (by rw [HX0.out]; simp), if_pos hz]) (by omega)
                    have hyl := B.dg_length wide T X
                    have hyg := fun i hi => B.dg_get wide T X i hi
                    have HBJ := Lib.hid (fun j f (hj : j < T) (hf : f = j * wide) w => show Calls Try.prog 71 #[.string t', .int .i64 f, .int .i64 wide] w (fun e w' => e = .returned (.int .u64 (((B.dg wide T X).getD j 0 : Nat) : Int)) ∧ w = w') by
                      have h1 := HBA.out f (by
                        have := HM.out
                        have h2 : (j + 1) * wide ≤ T * wide := Nat.mul_le_mul_right _ hj
                        rw [Nat.add_mul, Nat.one_mul] at h2; omega) w
                      rw [hyg j hj, Nat.mul_comm wide j, ← hf]; exact h1)
                    have HFB := Lib.hid (fun j (hj : j < T) => show j * wide ≤ 64 * 64 from Nat.mul_le_mul (by omega) hw)
                    clear hyg
                    generalize B.dg wide T X = ys at *
                    have HGO := Lib.hid hgo
                    have HBAD2 := Lib.hid hbad
                    clear hgo hbad
                    go_wp2_with fail
                    go_loopw [8, 17, 18] (fun v i _ wr => ∃ j : Nat, j ≤ T ∧ i = .int .i64 j ∧ NumRow w.heap.size (xs ++ ys.take (min j left)) v wr ∧ Hid (∀ q, left ≤ q → q < j → ys.getD q 0 = 0) ∧ Below w.heap.size w wr) (fun _ i _ _ => T - (intOf i).toNat)
                    case atStart => exact ⟨0, by omega, rfl, by simpa using hrow1, Lib.hid (fun q h1 h2 => by omega), hbw1⟩
                    case round =>
                      obtain ⟨j, hj, rfl, hrow2, HQ, hbw2⟩ := hrel
                      by_cases hjm : j < T
                      · obtain ⟨f, hf⟩ : ∃ f, f = j * wide := ⟨_, rfl⟩
                        have hfI : ((j : Int) * (wide : Int)) = (f : Int) := by rw [hf]; simp
                        have hfb := HFB.out j hjm
                        rw [← hf] at hfb
                        have HB2 := Lib.hid (HBJ.out j f hjm hf wr)
                        have hyj : ys.take (j + 1) = ys.take j ++ [ys.getD j 0] := by
                          rw [List.take_succ_eq_append_getElem (by omega)]; simp [List.getD, List.getElem?_eq_getElem (show j < ys.length by omega)]
                        have HYJ := Lib.hid hyj
                        obtain ⟨y, hy⟩ : ∃ y, y = ys.getD j 0 := ⟨_, rfl⟩
                        rw [← hy] at HB2 HYJ
                        have HY := Lib.hid hy
                        clear hf hyj hy
                        by_cases hlj : left ≤ j
                        · have g8 : decide ((left : Int) ≤ (j : Int)) = true := by simp; omega
                          have g9 : decide ((j : Int) < (left : Int)) = false := by simp; omega
                          by_cases hy0 : y = 0
                          · have HQ2 := Lib.hid (show ∀ q, left ≤ q → q < j + 1 → ys.getD q 0 = 0 from fun q h1 h2 => by
                              rcases Nat.lt_or_ge q j with h3 | h3
                              · exact HQ.out q h1 h3
                              · obtain rfl : q = j := by omega
                                rw [← HY.out]; exact hy0)
                            subst hy0
                            have hmin : min j left = min (j + 1) left := by omega
                            rw [hmin] at hrow2
                            go_wp2_with fail
                            refine (HB2.out).mono ?_
                            rintro e w2 ⟨rfl, rfl⟩
                            go_wp2_with fail
                            exact ⟨⟨j + 1, by omega, by go_num, hrow2, HQ2, hbw2⟩, by simp [intOf]; omega⟩
                          · have HE := Lib.hid (HBAD2.out (wd_ne _ (j - left) (by rw [List.length_drop]; omega) (by
                              have e : (ys.drop (min left T)).getD (j - left) 0 = ys.getD j 0 := by
                                rw [Nat.min_eq_left (by omega)]
                                simp only [List.getD, List.getElem?_drop]
                                rw [show left + (j - left) = j by omega]
                              rw [e, ← HY.out]; exact hy0)))
                            have g10 : ((y : Int) != 0) = true := by rw [bne_iff_ne]; omega
                            go_wp2_with fail
                            refine (HB2.out).mono ?_
                            rintro e w2 ⟨rfl, rfl⟩
                            go_wp2_with fail
                            go_ret2
                            rw [HE.out]
                            exact ⟨none, 0, rfl, Nums.nil _ _ _, hbw2⟩
                        · have g8 : decide ((left : Int) ≤ (j : Int)) = false := by simp; omega
                          have g9 : decide ((j : Int) < (left : Int)) = true := by simp; omega
                          have hxl2 : (xs ++ ys.take (min j left)).length = xs.length + j := by rw [List.length_append, List.length_take]; omega
                          have HSN := Lib.hid (show xs ++ ys.take (min (j + 1) left) = (xs ++ ys.take (min j left)) ++ [y] by
                            rw [Nat.min_eq_left (by omega), Nat.min_eq_left (by omega), HYJ.out, List.append_assoc])
                          generalize xs ++ ys.take (min j left) = zs at *
                          have hrow2' : wr.ownsRow w.heap.size 23 1 u8 zs.length (nv zs) := hrow2
                          have HROW := Lib.hid hrow2'
                          clear hrow2 hrow2'
                          go_wp2_with fail
                          refine (HB2.out).mono ?_
                          rintro e w2 ⟨rfl, rfl⟩
                          have hb5 : w.heap.size ≤ (wr.alloc (.cells #[.int .u64 (y : Int)] 23)).heap.size := by have := hbw2.size; simp; omega
                          go_wp2_with (at_builtin; refine wpList_append_one rfl (.tmp 143) (.tmp 145) rfl w.heap.size _ zs.length _ rfl (HROW.out.alloc _) wr.heap.size y rfl (World.cell?_alloc_new _ _ _ _) (by omega) hb5 ?_)
                          intro v' w5 hown5 hgrow5
                          go_wp2_with fail
                          have hbw5 : Below w.heap.size w w5 := (hbw2.alloc hbw2.size _).grown hgrow5 (by have := hbw2.size; simp; omega) (fun k hk => (HROW.out.lt k hk).1)
                          refine ⟨⟨j + 1, by omega, by go_num, ?_, Lib.hid (fun q h1 h2 => by omega), hbw5⟩, by simp [intOf]; omega⟩
                          rw [HSN.out]; unfold NumRow; rw [List.length_append, hxl2]; simpa [nv, hxl2] using hown5
                      · obtain rfl : j = T := by omega
                        have hZt : (Z : Int) ≤ (t'.size : Int) := by omega
                        have hwz : B.wd (ys.drop (min left j)) = 0 := wd_eq _ (fun q hq => by
                          rw [List.length_drop] at hq
                          have e : (ys.drop (min left j)).getD q 0 = ys.getD (min left j + q) 0 := by simp [List.getD, List.getElem?_drop]
                          rw [e]; exact HQ.out _ (by omega) (by omega))
                        have hgo := HGO.out (by rw [hwz]; simp)
                        simp only [H.Part.nums] at hgo
                        have hxl2 : (xs ++ ys.take (min j left)).length = xs.length + min j left := by rw [List.length_append, List.length_take]; omega
                        have hyl2 : (ys.take (min left j)).length = min left j := by rw [List.length_take]; omega
                        rw [hyl2] at hgo
                        have HGO2 := Lib.hid hgo
                        clear hgo hwz hyl2
                        go_wp2_with fail
                        refine ⟨⟨t'.extract Z t'.size, xs ++ ys.take (min j left), by rw [hts'], by simp; omega, by omega, hrow2, Lib.hid ?_, hbw2⟩, ?_⟩
                        · rw [HGO2.out, cut_data, HTD.out, List.drop_drop, hxl2, Nat.min_comm left j, show many - (xs.length + min j left) = left - min j left by omega]
                        · obtain ⟨a3, c3, e3, _⟩ := numRow_nums hrow2
                          rw [e3]; simp [lenS]; omega
          · rw [if_neg hp] at hf
            by_cases hq : left < h / 2
            · rw [if_pos hq] at hf; omega
            · clear hf
              obtain ⟨m, hm2⟩ : ∃ m, m = h / 2 := ⟨_, rfl⟩
              obtain ⟨T, hT⟩ : ∃ T, T = 1 := ⟨_, rfl⟩
              have hmb : 1 ≤ m ∧ m ≤ left := by omega
              have hTb : 1 ≤ T ∧ T ≤ 64 := by omega
              have hheld : H.held h = T := by unfold H.held; rw [if_neg hp, hT]
              have g5 : ((h : Int) % 2 == 0) = true := by rw [beq_iff_eq]; omega
              have g6 : ((h : Int) % 2 == 1) = false := by rw [beq_eq_false_iff_ne]; omega
              have g7 : decide ((left : Int) < (h : Int) / 2) = false := by simp; omega
              have hhm : ((h : Int) / 2) = (m : Int) := by omega
              have hwt2 : IntKind.i64.wrap (m : Int) = (m : Int) := by rw [IntKind.wrap_i64]; omega
              obtain ⟨M, hM⟩ : ∃ M, M = T * wide := ⟨_, rfl⟩
              have hM4 : M ≤ 64 * 64 := by rw [hM]; exact Nat.mul_le_mul hTb.2 hw
              obtain ⟨Z, hZ⟩ : ∃ Z, Z = B.sz M := ⟨_, rfl⟩
              have hZb : Z ≤ 512 ∧ M ≤ 8 * Z ∧ 8 * Z ≤ M + 7 := by rw [hZ]; unfold B.sz; omega
              obtain ⟨Z8, hZ8⟩ : ∃ Z8, Z8 = 8 * Z := ⟨_, rfl⟩
              rw [hheld, ← hM, ← hZ] at hfo
              have hq6 : (wide : Int) = (M : Int) := by rw [hM, hT]; simp
              have hq3 : (((M : Int) + 7) / 8) = (Z : Int) := by rw [hZ]; unfold B.sz; omega
              have hq8 : ((8 : Int) * (Z : Int)) = (Z8 : Int) := by omega
              have hZ8b : M ≤ Z8 ∧ Z8 ≤ M + 7 := by omega
              have HZ8 := Lib.hid hZ8
              have HM := Lib.hid hM
              have HTT := Lib.hid hT
              have HHM := Lib.hid hm2
              subst hT
              rw [Nat.one_mul] at hM
              have hM' := hM.symm
              clear hM
              subst hM'
              clear hq6
              clear hZ hZ8 hm2 
              by_cases hsh : t'.size < Z
              · have HE := Lib.hid (HRE.out 5 (by rw [hfo, if_pos (by omega)]) (by omega))
                clear hfo hnum hrow
                go_wp2_with fail
                refine (HVO.out _).mono ?_
                rintro e w1 ⟨rfl, hb1⟩
                go_wp2_with fail
                go_ret2
                rw [HE.out]
                exact ⟨none, 0, rfl, Nums.nil _ _ _, below_then hbw hb1⟩
              · rw [if_neg (by omega)] at hfo
                obtain ⟨X, hX⟩ : ∃ X, X = B.leN ((t.data.toList.drop k).take Z) := ⟨_, rfl⟩
                unfold H.body at hfo
                rw [← hX, hheld, Nat.one_mul , if_pos (show h % 2 = 0 by omega)] at hfo
                have hdl : Z ≤ (t.data.toList.drop k).length := by rw [List.length_drop, len_data]; omega
                have hdt : ((t.data.toList.drop k).take Z).length = Z := by rw [List.length_take]; omega
                have HBT := Lib.hid (fun p (hp : p < Z8) w => show Calls Try.prog 70 #[.string t', .int .i64 p] w (fun e w' => e = .returned (.int .u64 ((X / 2 ^ p % 2 : Nat) : Int)) ∧ w = w') by
                  have := HZ8.out
                  have h1 := textBit_any t' p w (by omega) (by omega)
                  rw [HTD.out, bit_take _ Z p hdl (by omega), ← hX] at h1
                  exact h1)
                have HBA := Lib.hid (fun f (hf : f + wide ≤ Z8) w => show Calls Try.prog 71 #[.string t', .int .i64 f, .int .i64 wide] w (fun e w' => e = .returned (.int .u64 ((X / 2 ^ f % 2 ^ wide : Nat) : Int)) ∧ w = w') by
                  have := HZ8.out
                  have h1 := bitsAt_any t' f wide w hw (by omega) (by omega)
                  rw [HTD.out, bits_take _ Z f wide hdl (by omega), ← hX] at h1
                  exact h1)
                have HTOP := Lib.hid (show X / 2 ^ wide % 2 ^ (Z8 - wide) = 0 → X / 2 ^ wide = 0 from fun h => by
                  rw [hX] at h ⊢; rw [HZ8.out] at h
                  exact top_take _ Z wide hdt (by have := HZ8.out; omega) h)
                have HFO := Lib.hid hfo
                have HBAD := Lib.hid (show X / 2 ^ wide ≠ 0 → R = ([], 1) from fun hx => HRE.out 1 (by rw [hfo, if_pos hx]) (by omega))
                have hd1 : decide (left < m) = false := by simp; omega
                have hd2 : decide (t.size - k < Z) = false := by simp; omega
                clear hfo hX hdl hdt hheld hp hm0
                go_wp2_with fail
                refine (HVO.out _).mono ?_
                rintro e w1 ⟨rfl, hb1⟩
                have hbw1 := below_then hbw hb1
                have hrow1 : NumRow w.heap.size xs (.slice a xs.length c) w1 := row_below hrow hb1
                clear hrow hnum
                go_wp2_with fail
                rw [← HT'.out]
                simp only [hq3]
                go_loop [15] (fun i => ∃ p : Nat, wide ≤ p ∧ p ≤ Z8 ∧ i = .int .i64 p ∧ Hid (X / 2 ^ wide % 2 ^ (p - wide) = 0)) (fun i => Z8 - (intOf i).toNat)
                case atStart => exact ⟨wide, Nat.le_refl _, by omega, rfl, Lib.hid (by simp [Nat.mod_one])⟩
                case round =>
                  obtain ⟨p, hp1, hp2, rfl, HL⟩ := hrel
                  by_cases hpz : p < Z8
                  · have htb := HBT.out p hpz w1
                    have hls := low_step X wide p hp1 HL.out
                    have hbo := bit_one X wide p hp1
                    have hb2 : X / 2 ^ p % 2 < 2 := by omega
                    generalize X / 2 ^ p % 2 = bt at *
                    have HTBp := Lib.hid htb
                    clear htb
                    by_cases hone : bt = 1
                    · subst hone
                      have HE := Lib.hid (HBAD.out (hbo rfl))
                      clear hbo hls
                      go_wp2_with fail
                      refine (HTBp.out).mono ?_
                      rintro e w2 ⟨rfl, rfl⟩
                      go_wp2_with fail
                      go_ret2
                      rw [HE.out]
                      exact ⟨none, 0, rfl, Nums.nil _ _ _, hbw1⟩
                    · obtain rfl : bt = 0 := by omega
                      have HLS := Lib.hid (hls rfl)
                      clear hls hbo
                      go_wp2_with fail
                      refine (HTBp.out).mono ?_
                      rintro e w2 ⟨rfl, rfl⟩
                      go_wp2_with fail
                      exact ⟨⟨p + 1, by omega, by omega, by go_num, HLS⟩, by simp [intOf]; omega⟩
                  · obtain rfl : p = Z8 := by omega
                    have HX0 := Lib.hid (HTOP.out HL.out)
                    have hgo := HRG.out _ _ (HFO.out.trans (if_neg (by rw [HX0.out]; simp)))
                    rw [dg_one, List.headD_cons, ← HHM.out] at hgo
                    have hba := HBA.out 0 (by omega)
                    rw [Nat.pow_zero, Nat.div_one] at hba
                    generalize X % 2 ^ wide = x at *
                    simp only [H.Part.nums, List.length_replicate] at hgo
                    have HGO := Lib.hid hgo
                    have HB0 := Lib.hid hba
                    clear hgo hba
                    go_wp2_with fail
                    go_loopw [8, 16] (fun v i wr => ∃ j : Nat, j ≤ m ∧ i = .int .i64 j ∧ NumRow w.heap.size (xs ++ List.replicate j x) v wr ∧ Below w.heap.size w wr) (fun _ i _ => m - (intOf i).toNat)
                    case atStart => exact ⟨0, by omega, rfl, by simpa using hrow1, hbw1⟩
                    case round =>
                      obtain ⟨j, hj, rfl, hrow2, hbw2⟩ := hrel
                      by_cases hjm : j < m
                      · have hb2 := HB0.out wr
                        have hxl2 : (xs ++ List.replicate j x).length = xs.length + j := by rw [List.length_append, List.length_replicate]
                        have HSN := Lib.hid (show xs ++ List.replicate (j + 1) x = (xs ++ List.replicate j x) ++ [x] by rw [List.append_assoc, ← List.replicate_succ'])
                        generalize xs ++ List.replicate j x = zs at *
                        have HB2 := Lib.hid hb2
                        have hrow2' : wr.ownsRow w.heap.size 23 1 u8 zs.length (nv zs) := hrow2
                        have HROW := Lib.hid hrow2'
                        clear hb2 hrow2 hrow2'
                        go_wp2_with fail
                        refine (HB2.out).mono ?_
                        rintro e w2 ⟨rfl, rfl⟩
                        have hb5 : w.heap.size ≤ (wr.alloc (.cells #[.int .u64 (x : Int)] 23)).heap.size := by have := hbw2.size; simp; omega
                        go_wp2_with (at_builtin; refine wpList_append_one rfl (.tmp 116) (.tmp 120) rfl w.heap.size _ zs.length _ rfl (HROW.out.alloc _) wr.heap.size x rfl (World.cell?_alloc_new _ _ _ _) (by omega) hb5 ?_)
                        intro v' w5 hown5 hgrow5
                        go_wp2_with fail
                        have hbw5 : Below w.heap.size w w5 := (hbw2.alloc hbw2.size _).grown hgrow5 (by have := hbw2.size; simp; omega) (fun k hk => (HROW.out.lt k hk).1)
                        refine ⟨⟨j + 1, by omega, by go_num, ?_, hbw5⟩, by simp [intOf]; omega⟩
                        rw [HSN.out]; unfold NumRow; rw [List.length_append, hxl2]; simpa [nv, hxl2] using hown5
                      · obtain rfl : j = m := by omega
                        have hZt : (Z : Int) ≤ (t'.size : Int) := by omega
                        have hxl2 : (xs ++ List.replicate j x).length = xs.length + j := by rw [List.length_append, List.length_replicate]
                        go_wp2_with fail
                        refine ⟨⟨t'.extract Z t'.size, xs ++ List.replicate j x, by rw [hts'], by simp; omega, by omega, hrow2, Lib.hid ?_, hbw2⟩, ?_⟩
                        · rw [HGO.out, cut_data, HTD.out, List.drop_drop, hxl2, show many - (xs.length + j) = left - j by omega]
                        · obtain ⟨a3, c3, e3, _⟩ := numRow_nums hrow2
                          rw [e3]; simp [lenS]; omega
        · have hfe : H.fit h left = if h / 2 = 0 then 1 else 2 := by
            unfold H.fit at hf ⊢
            by_cases hm0 : h / 2 = 0
            · rw [if_pos hm0, if_pos hm0]
            · rw [if_neg hm0] at hf; rw [if_neg hm0, if_neg hm0]
              by_cases hc : (if h % 2 = 1 then H.nb left else left) < h / 2
              · rw [if_pos hc]
              · rw [if_neg hc] at hf; exact absurd rfl hf
          rw [if_pos hf, hfe] at hfo
          by_cases hm0 : h / 2 = 0
          · rw [if_pos hm0] at hfo
            have HE := Lib.hid (HRE.out 1 (by rw [hfo]) (by omega))
            have g4 : decide ((h : Int) < 2) = true := by simp; omega
            clear hfo hf hfe hnum hrow
            go_wp2_with fail
            refine (HVO.out _).mono ?_
            rintro e w1 ⟨rfl, hb1⟩
            go_wp2_with fail
            go_ret2
            rw [HE.out]
            exact ⟨none, 0, rfl, Nums.nil _ _ _, below_then hbw hb1⟩
          · rw [if_neg hm0] at hfo
            have HE := Lib.hid (HRE.out 2 (by rw [hfo]) (by omega))
            have g4 : decide ((h : Int) < 2) = false := by simp; omega
            have hlim : (if h % 2 = 1 then H.nb left else left) < h / 2 := by
              unfold H.fit at hf
              rw [if_neg hm0] at hf
              by_cases hc : (if h % 2 = 1 then H.nb left else left) < h / 2
              · exact hc
              · rw [if_neg hc] at hf; exact absurd rfl hf
            clear hfo hf hfe hnum hrow
            by_cases hp : h % 2 = 1
            · rw [if_pos hp, ← HNB.out] at hlim
              have g5 : ((h : Int) % 2 == 0) = false := by rw [beq_eq_false_iff_ne]; omega
              have g6 : ((h : Int) % 2 == 1) = true := by rw [beq_iff_eq]; omega
              have g7 : decide ((NB : Int) < (h : Int) / 2) = true := by simp; omega
              go_wp2_with fail
              refine (HVO.out _).mono ?_
              rintro e w1 ⟨rfl, hb1⟩
              go_wp2_with fail
              go_ret2
              rw [HE.out]
              exact ⟨none, 0, rfl, Nums.nil _ _ _, below_then hbw hb1⟩
            · rw [if_neg hp] at hlim
              have g5 : ((h : Int) % 2 == 0) = true := by rw [beq_iff_eq]; omega
              have g7 : decide ((left : Int) < (h : Int) / 2) = true := by simp; omega
              go_wp2_with fail
              refine (HVO.out _).mono ?_
              rintro e w1 ⟨rfl, hb1⟩
              go_wp2_with fail
              go_ret2
              rw [HE.out]
              exact ⟨none, 0, rfl, Nums.nil _ _ _, below_then hbw hb1⟩
      · obtain ⟨er, her, hre⟩ : ∃ er, er ≠ 0 ∧ V.rd t.data.toList = (0, 0, er) := by
          rcases V.rd_bad t.data.toList with h0 | h5 | h1
          · exact absurd h0 hrd
          · exact ⟨5, by omega, h5⟩
          · exact ⟨1, by omega, h1⟩
        have HE := Lib.hid (HRE.out er (first_e1 t.data.toList left wide er (by rw [hre]) her) her)
        have g4 : ((er : Int) != 0) = true := by rw [bne_iff_ne]; omega
        rw [hre] at hvo
        have HVO := Lib.hid hvo
        clear hvo hrd hre hnum hrow
        go_wp2_with fail
        refine (HVO.out _).mono ?_
        rintro e w1 ⟨rfl, hb1⟩
        go_wp2_with fail
        go_ret2
        rw [HE.out]
        exact ⟨none, 0, rfl, Nums.nil _ _ _, below_then hbw hb1⟩
    · obtain rfl : many = xs.length := by omega
      have hz : xs.length - xs.length = 0 := Nat.sub_self _
      have HK2 := Lib.hid (show R = H.pre xs ([], if t.data.toList = [] then 0 else 1) by rw [HK.out, hz, H.read_zero])
      by_cases ht : t.size = 0
      · have HE := Lib.hid (show R = (xs, 0) by rw [HK2.out, if_pos (data_empty t ht)]; simp [H.pre])
        go_wp2_with fail
        go_ret2
        rw [HE.out]
        exact ⟨_, _, rfl, hnum, hbw⟩
      · have HE := Lib.hid (show R = ([], 1) by rw [HK2.out, if_neg (data_ne t ht)]; simp [H.pre])
        go_wp2_with fail
        go_ret2
        rw [HE.out]
        exact ⟨none, 0, rfl, Nums.nil _ _ _, hbw⟩

set_option maxHeartbeats 400000 in
theorem hof_range (s : ByteArray) (many wide : Int) (w : World) (h : wide < 0 ∨ 64 < wide ∨ many < 0) :
    Calls Try.prog 49 #[.string s, .int .i64 many, .int .i64 wide] w (AllPost ([], 3) w) := by
  by_cases h0 : wide < 0
  · have g1 : decide (wide < 0) = true := by simp; omega
    go_enter Try.func49, Try.ntmps49
    go_wp2_with fail
    go_ret2
    exact ⟨none, 0, rfl, Nums.nil _ _ _, Below.refl _ _⟩
  · have g1 : decide (wide < 0) = false := by simp; omega
    by_cases h1 : 64 < wide
    · have g2 : decide (64 < wide) = true := by simp; omega
      go_enter Try.func49, Try.ntmps49
      go_wp2_with fail
      go_ret2
      exact ⟨none, 0, rfl, Nums.nil _ _ _, Below.refl _ _⟩
    · have g2 : decide (64 < wide) = false := by simp; omega
      have g3 : decide (many < 0) = true := by simp; omega
      go_enter Try.func49, Try.ntmps49
      go_wp2_with fail
      go_ret2
      exact ⟨none, 0, rfl, Nums.nil _ _ _, Below.refl _ _⟩

set_option maxHeartbeats 400000 in
theorem hof_many (s : ByteArray) (many : Int) (wide : Nat) (w : World) (h : wide ≤ 64) (hm : 64 < many) :
    Calls Try.prog 49 #[.string s, .int .i64 many, .int .i64 wide] w (AllPost ([], 2) w) := by
  have g1 : decide ((wide : Int) < 0) = false := by simp
  have g2 : decide ((64 : Int) < (wide : Int)) = false := by simp; omega
  have g3 : decide (many < 0) = false := by simp; omega
  have g4 : decide (64 < many) = true := by simp; omega
  go_enter Try.func49, Try.ntmps49
  go_wp2_with fail
  go_ret2
  exact ⟨none, 0, rfl, Nums.nil _ _ _, Below.refl _ _⟩

theorem hof_any (s : ByteArray) (many wide : Int) (w : World) (hs : s.size ≤ maxLen) :
    Calls Try.prog 49 #[.string s, .int .i64 many, .int .i64 wide] w (AllPost (hreadR s.data.toList many wide) w) := by
  unfold hreadR
  by_cases h0 : wide < 0 ∨ 64 < wide ∨ many < 0
  · rw [if_pos h0]; exact hof_range s many wide w h0
  rw [if_neg h0]
  obtain ⟨n, rfl⟩ : ∃ n : Nat, wide = n := ⟨wide.toNat, by omega⟩
  by_cases h1 : 64 < many
  · rw [if_pos h1]; exact hof_many s many n w (by omega) h1
  obtain ⟨m, rfl⟩ : ∃ m : Nat, many = m := ⟨many.toNat, by omega⟩
  rw [if_neg h1, Int.toNat_natCast, Int.toNat_natCast]
  exact hof_in s m n w hs (by omega) (by omega)
end Go.Proofs.Ytpjmpbpbfjemdaa
