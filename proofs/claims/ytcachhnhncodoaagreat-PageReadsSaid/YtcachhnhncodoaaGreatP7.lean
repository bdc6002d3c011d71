/- HR5, DR3, PW4, PW5, PW6, PR3, KR8, ShelfClone. -/
import Derived.Shelf.Small.Bits
import Derived.Shelf.Strconv.Itoa0
import Derived.Shelf.LaysM
import Derived.Shelf.Strconv.Clone
import Derived.Test.YtcachhnhncodoaaGreatProg
import Derived.Test.YtcachhnhncodoaaGreatP6
namespace Go.Proofs.YtcachhnhncodoaaGreat
open Go.RowKit
set_option linter.unusedVariables false
set_option maxHeartbeats 8000000 in
set_option maxRecDepth 100000 in
theorem hof_in (s : ByteArray) (many wide : Nat) (w : World) (hs : s.size ≤ maxLen) (hw : wide ≤ 64) (hm : many ≤ 64) :
    Calls Tryz.prog 95 #[.string s, .int .i64 many, .int .i64 wide] w (AllPost (H.read s.data.toList many wide) w) := by
  obtain ⟨i0, hi, hz0, hz1, hz2⟩ := info_parts info_u64
  have g1 : decide ((wide : Int) < 0) = false := by simp
  have g2 : decide ((64 : Int) < (wide : Int)) = false := by simp; omega
  have g3 : decide ((many : Int) < 0) = false := by simp
  obtain ⟨R, hR⟩ : ∃ R, R = H.read s.data.toList many wide := ⟨_, rfl⟩
  have HR := Lib.hid hR
  rw [← hR]
  have hmax := hs
  unfold maxLen at hmax
  clear hR
  go_enter Tryz.func95, Tryz.ntmps95
  go_wp2_with fail
  go_loopw [0, 8, 9, 10, 11, 12, 13, 14, 15, 16, 17, 18] (fun s' v _ _ _ _ _ _ _ _ _ _ wr => ∃ (t : ByteArray) (xs : List Nat), s' = .string t ∧ t.size ≤ s.size ∧ xs.length ≤ many ∧ NumRow w.heap.size xs v wr ∧ Hid (R = H.pre xs (H.read t.data.toList (many - xs.length) wide)) ∧ Below w.heap.size w wr) (fun _ v _ _ _ _ _ _ _ _ _ _ _ => many - lenS v)
  case atStart => exact ⟨s, [], rfl, Nat.le_refl _, by simp, ⟨rfl, Or.inl ⟨rfl, rfl⟩⟩, Lib.hid (by rw [H.pre_nil _ (H.read_err _ _ _)]; exact HR.out), Below.refl _ _⟩
  case round =>
    obtain ⟨t, xs, rfl, hts, hxm, hrow, HK, hbw⟩ := hrel
    obtain ⟨a, c, rfl, hnum, hlc, hcm⟩ := numRow_numsc hrow
    by_cases hlt : xs.length < many
    · obtain ⟨left, hleft⟩ : ∃ left, left = many - xs.length := ⟨_, rfl⟩
      have hsub : ((many : Int) - (xs.length : Int)) = (left : Int) := by omega
      have hl1 : 1 ≤ left ∧ left ≤ 64 := by omega
      have hlm : xs.length + left = many := by omega
      rw [← hleft] at HK
      clear hleft
      have hvo := fun w => vof_all t w (by omega)
      have HRE := Lib.hid (fun e h he => read_er R xs t.data.toList left wide e hl1.1 HK.out h he)
      have HRG := Lib.hid (fun en p h => read_go R xs t.data.toList left wide en p hl1.1 HK.out h)
      by_cases hrd : (V.rd t.data.toList).2.2 = 0
      · obtain ⟨h, k, hr⟩ : ∃ h k, V.rd t.data.toList = (h, k, 0) := ⟨_, _, by rw [← hrd]⟩
        obtain ⟨k1, k2, _, k4, k5, _⟩ := V.rd_ok _ _ _ hr
        rw [len_data] at k2
        rw [hr] at hvo
        have hfo := first_ok t.data.toList left wide h k hr
        unfold H.firstL at hfo
        rw [len_data] at hfo
        obtain ⟨t', ht'⟩ : ∃ t', t' = t.extract k t.size := ⟨_, rfl⟩
        have htd : t'.data.toList = t.data.toList.drop k := by rw [ht', cut_data]
        have hts' : t'.size = t.size - k := by rw [ht']; simp
        have hkt : (k : Int) ≤ (t.size : Int) := by omega
        have HVO := Lib.hid hvo
        have HTD := Lib.hid htd
        have HT' := Lib.hid ht'
        obtain ⟨NB, hNB⟩ : ∃ NB, NB = H.nb left := ⟨_, rfl⟩
        have hNB8 : NB ≤ 8 := by rw [hNB]; unfold H.nb; omega
        have hq7 : (((left : Int) + 7) / 8) = (NB : Int) := by rw [hNB]; unfold H.nb; omega
        have hwl : IntKind.u64.wrap (left : Int) = (left : Int) := by rw [IntKind.wrap_u64]; omega
        have hwn : IntKind.u64.wrap (NB : Int) = (NB : Int) := by rw [IntKind.wrap_u64]; omega
        have HNB := Lib.hid hNB
        clear hvo htd ht' hrd hNB
        by_cases hf : H.fit h left = 0
        · rw [if_neg (by simp [hf])] at hfo
          unfold H.fit at hf
          by_cases hm0 : h / 2 = 0
          · rw [if_pos hm0] at hf; omega
          rw [if_neg hm0] at hf
          have g4 : decide ((h : Int) < 2) = false := by simp; omega
          by_cases hp : h % 2 = 1
          · rw [if_pos hp] at hf
            by_cases hq : H.nb left < h / 2
            · rw [if_pos hq] at hf; omega
            · clear hf
              obtain ⟨m, hm2⟩ : ∃ m, m = h / 2 := ⟨_, rfl⟩
              obtain ⟨T, hT⟩ : ∃ T, T = m * 8 := ⟨_, rfl⟩
              have hmb : 1 ≤ m ∧ m ≤ NB := by rw [HNB.out]; omega
              have hTb : 8 ≤ T ∧ T ≤ 64 := by omega
              have hheld : H.held h = T := by unfold H.held; rw [if_pos hp, hT, hm2]
              have g5 : ((h : Int) % 2 == 0) = false := by rw [beq_eq_false_iff_ne]; omega
              have g6 : ((h : Int) % 2 == 1) = true := by rw [beq_iff_eq]; omega
              have g7 : decide ((NB : Int) < (h : Int) / 2) = false := by simp; omega
              have hhm : ((h : Int) / 2) = (m : Int) := by omega
              have hm8 : ((m : Int) * 8) = (T : Int) := by omega
              have hwt : IntKind.u64.wrap (T : Int) = (T : Int) := by rw [IntKind.wrap_u64]; omega
              have hwt2 : IntKind.i64.wrap (T : Int) = (T : Int) := by rw [IntKind.wrap_i64]; omega
              obtain ⟨M, hM⟩ : ∃ M, M = T * wide := ⟨_, rfl⟩
              have hM4 : M ≤ 64 * 64 := by rw [hM]; exact Nat.mul_le_mul hTb.2 hw
              obtain ⟨Z, hZ⟩ : ∃ Z, Z = B.sz M := ⟨_, rfl⟩
              have hZb : Z ≤ 512 ∧ M ≤ 8 * Z ∧ 8 * Z ≤ M + 7 := by rw [hZ]; unfold B.sz; omega
              obtain ⟨Z8, hZ8⟩ : ∃ Z8, Z8 = 8 * Z := ⟨_, rfl⟩
              rw [hheld, ← hM, ← hZ] at hfo
              have hq6 : ((T : Int) * (wide : Int)) = (M : Int) := by rw [hM]; simp
              have hq3 : (((M : Int) + 7) / 8) = (Z : Int) := by rw [hZ]; unfold B.sz; omega
              have hq8 : ((8 : Int) * (Z : Int)) = (Z8 : Int) := by omega
              have hZ8b : M ≤ Z8 ∧ Z8 ≤ M + 7 := by omega
              have HZ8 := Lib.hid hZ8
              have HM := Lib.hid hM
              have HTT := Lib.hid hT
              have HHM := Lib.hid hm2
              clear hZ hZ8 hm2 hM hT
              by_cases hsh : t'.size < Z
              · have HE := Lib.hid (HRE.out 5 (by rw [hfo, if_pos (by omega)]) (by omega))
                clear hfo hnum hrow
                go_wp2_with fail
                refine (HVO.out _).mono ?_
                rintro e w1 ⟨rfl, hb1⟩
                go_wp2_with fail
                go_ret2
                rw [HE.out]
                exact ⟨none, 0, rfl, Nums.nil _ _ _, below_then hbw hb1⟩
              · rw [if_neg (by omega)] at hfo
                obtain ⟨X, hX⟩ : ∃ X, X = B.leN ((t.data.toList.drop k).take Z) := ⟨_, rfl⟩
                unfold H.body at hfo
                rw [← hX, hheld, ← HM.out , if_neg (show ¬ h % 2 = 0 by omega)] at hfo
                have hdl : Z ≤ (t.data.toList.drop k).length := by rw [List.length_drop, len_data]; omega
                have hdt : ((t.data.toList.drop k).take Z).length = Z := by rw [List.length_take]; omega
                have HBT := Lib.hid (fun p (hp : p < Z8) w => show Calls Tryz.prog 92 #[.string t', .int .i64 p] w (fun e w' => e = .returned (.int .u64 ((X / 2 ^ p % 2 : Nat) : Int)) ∧ w = w') by
                  have := HZ8.out
                  have h1 := textBit_any t' p w (by omega) (by omega)
                  rw [HTD.out, bit_take _ Z p hdl (by omega), ← hX] at h1
                  exact h1)
                have HBA := Lib.hid (fun f (hf : f + wide ≤ Z8) w => show Calls Tryz.prog 125 #[.string t', .int .i64 f, .int .i64 wide] w (fun e w' => e = .returned (.int .u64 ((X / 2 ^ f % 2 ^ wide : Nat) : Int)) ∧ w = w') by
                  have := HZ8.out
                  have h1 := bitsAt_any t' f wide w hw (by omega) (by omega)
                  rw [HTD.out, bits_take _ Z f wide hdl (by omega), ← hX] at h1
                  exact h1)
                have HTOP := Lib.hid (show X / 2 ^ M % 2 ^ (Z8 - M) = 0 → X / 2 ^ M = 0 from fun h => by
                  rw [hX] at h ⊢; rw [HZ8.out] at h
                  exact top_take _ Z M hdt (by have := HZ8.out; omega) h)
                have HFO := Lib.hid hfo
                have HBAD := Lib.hid (show X / 2 ^ M ≠ 0 → R = ([], 1) from fun hx => HRE.out 1 (by rw [hfo, if_pos hx]) (by omega))
                have hd1 : decide (NB < m) = false := by simp; omega
                have hd2 : decide (t.size - k < Z) = false := by simp; omega
                clear hfo hX hdl hdt hheld hp hm0
                go_wp2_with fail
                refine (HVO.out _).mono ?_
                rintro e w1 ⟨rfl, hb1⟩
                have hbw1 := below_then hbw hb1
                have hrow1 : NumRow w.heap.size xs (.slice a xs.length c) w1 := row_below hrow hb1
                clear hrow hnum
                go_wp2_with fail
                rw [← HT'.out]
                simp only [hq3, hq7]
                go_loop [15] (fun i => ∃ p : Nat, M ≤ p ∧ p ≤ Z8 ∧ i = .int .i64 p ∧ Hid (X / 2 ^ M % 2 ^ (p - M) = 0)) (fun i => Z8 - (intOf i).toNat)
                case atStart => exact ⟨M, Nat.le_refl _, by omega, rfl, Lib.hid (by simp [Nat.mod_one])⟩
                case round =>
                  obtain ⟨p, hp1, hp2, rfl, HL⟩ := hrel
                  by_cases hpz : p < Z8
                  · have htb := HBT.out p hpz w1
                    have hls := low_step X M p hp1 HL.out
                    have hbo := bit_one X M p hp1
                    have hb2 : X / 2 ^ p % 2 < 2 := by omega
                    generalize X / 2 ^ p % 2 = bt at *
                    have HTBp := Lib.hid htb
                    clear htb
                    by_cases hone : bt = 1
                    · subst hone
                      have HE := Lib.hid (HBAD.out (hbo rfl))
                      clear hbo hls
                      go_wp2_with fail
                      refine (HTBp.out).mono ?_
                      rintro e w2 ⟨rfl, rfl⟩
                      go_wp2_with fail
                      go_ret2
                      rw [HE.out]
                      exact ⟨none, 0, rfl, Nums.nil _ _ _, hbw1⟩
                    · obtain rfl : bt = 0 := by omega
                      have HLS := Lib.hid (hls rfl)
                      clear hls hbo
                      go_wp2_with fail
                      refine (HTBp.out).mono ?_
                      rintro e w2 ⟨rfl, rfl⟩
                      go_wp2_with fail
                      exact ⟨⟨p + 1, by omega, by omega, by go_num, HLS⟩, by simp [intOf]; omega⟩
                  · obtain rfl : p = Z8 := by omega
                    have HX0 := Lib.hid (HTOP.out HL.out)
                    have hgo := fun hz => HRG.out _ _ (HFO.out.trans ((if_neg (by rw [HX0.out]; simp)).trans (if_neg hz)))
                    have hbad := fun hz => HRE.out 1 (by rw [HFO.out, if_neg (by rw [HX0.out]; simp), if_pos hz]) (by omega)
                    have hyl := B.dg_length wide T X
                    have hyg := fun i hi => B.dg_get wide T X i hi
                    have HBJ := Lib.hid (fun j f (hj : j < T) (hf : f = j * wide) w => show Calls Tryz.prog 125 #[.string t', .int .i64 f, .int .i64 wide] w (fun e w' => e = .returned (.int .u64 (((B.dg wide T X).getD j 0 : Nat) : Int)) ∧ w = w') by
                      have h1 := HBA.out f (by
                        have := HM.out
                        have h2 : (j + 1) * wide ≤ T * wide := Nat.mul_le_mul_right _ hj
                        rw [Nat.add_mul, Nat.one_mul] at h2; omega) w
                      rw [hyg j hj, Nat.mul_comm wide j, ← hf]; exact h1)
                    have HFB := Lib.hid (fun j (hj : j < T) => show j * wide ≤ 64 * 64 from Nat.mul_le_mul (by omega) hw)
                    clear hyg
                    generalize B.dg wide T X = ys at *
                    have HGO := Lib.hid hgo
                    have HBAD2 := Lib.hid hbad
                    clear hgo hbad
                    go_wp2_with fail
                    go_loopw [8, 17, 18] (fun v i _ wr => ∃ j : Nat, j ≤ T ∧ i = .int .i64 j ∧ NumRow w.heap.size (xs ++ ys.take (min j left)) v wr ∧ Hid (∀ q, left ≤ q → q < j → ys.getD q 0 = 0) ∧ Below w.heap.size w wr) (fun _ i _ _ => T - (intOf i).toNat)
                    case atStart => exact ⟨0, by omega, rfl, by simpa using hrow1, Lib.hid (fun q h1 h2 => by omega), hbw1⟩
                    case round =>
                      obtain ⟨j, hj, rfl, hrow2, HQ, hbw2⟩ := hrel
                      by_cases hjm : j < T
                      · obtain ⟨f, hf⟩ : ∃ f, f = j * wide := ⟨_, rfl⟩
                        have hfI : ((j : Int) * (wide : Int)) = (f : Int) := by rw [hf]; simp
                        have hfb := HFB.out j hjm
                        rw [← hf] at hfb
                        have HB2 := Lib.hid (HBJ.out j f hjm hf wr)
                        have hyj : ys.take (j + 1) = ys.take j ++ [ys.getD j 0] := by
                          rw [List.take_succ_eq_append_getElem (by omega)]; simp [List.getD, List.getElem?_eq_getElem (show j < ys.length by omega)]
                        have HYJ := Lib.hid hyj
                        obtain ⟨y, hy⟩ : ∃ y, y = ys.getD j 0 := ⟨_, rfl⟩
                        rw [← hy] at HB2 HYJ
                        have HY := Lib.hid hy
                        clear hf hyj hy
                        by_cases hlj : left ≤ j
                        · have g8 : decide ((left : Int) ≤ (j : Int)) = true := by simp; omega
                          have g9 : decide ((j : Int) < (left : Int)) = false := by simp; omega
                          by_cases hy0 : y = 0
                          · have HQ2 := Lib.hid (show ∀ q, left ≤ q → q < j + 1 → ys.getD q 0 = 0 from fun q h1 h2 => by
                              rcases Nat.lt_or_ge q j with h3 | h3
                              · exact HQ.out q h1 h3
                              · obtain rfl : q = j := by omega
                                rw [← HY.out]; exact hy0)
                            subst hy0
                            have hmin : min j left = min (j + 1) left := by omega
                            rw [hmin] at hrow2
                            go_wp2_with fail
                            refine (HB2.out).mono ?_
                            rintro e w2 ⟨rfl, rfl⟩
                            go_wp2_with fail
                            exact ⟨⟨j + 1, by omega, by go_num, hrow2, HQ2, hbw2⟩, by simp [intOf]; omega⟩
                          · have HE := Lib.hid (HBAD2.out (wd_ne _ (j - left) (by rw [List.length_drop]; omega) (by
                              have e : (ys.drop (min left T)).getD (j - left) 0 = ys.getD j 0 := by
                                rw [Nat.min_eq_left (by omega)]
                                simp only [List.getD, List.getElem?_drop]
                                rw [show left + (j - left) = j by omega]
                              rw [e, ← HY.out]; exact hy0)))
                            have g10 : ((y : Int) != 0) = true := by rw [bne_iff_ne]; omega
                            go_wp2_with fail
                            refine (HB2.out).mono ?_
                            rintro e w2 ⟨rfl, rfl⟩
                            go_wp2_with fail
                            go_ret2
                            rw [HE.out]
                            exact ⟨none, 0, rfl, Nums.nil _ _ _, hbw2⟩
                        · have g8 : decide ((left : Int) ≤ (j : Int)) = false := by simp; omega
                          have g9 : decide ((j : Int) < (left : Int)) = true := by simp; omega
                          have hxl2 : (xs ++ ys.take (min j left)).length = xs.length + j := by rw [List.length_append, List.length_take]; omega
                          have HSN := Lib.hid (show xs ++ ys.take (min (j + 1) left) = (xs ++ ys.take (min j left)) ++ [y] by
                            rw [Nat.min_eq_left (by omega), Nat.min_eq_left (by omega), HYJ.out, List.append_assoc])
                          generalize xs ++ ys.take (min j left) = zs at *
                          have hrow2' : wr.ownsRow w.heap.size 34 1 u8 zs.length (nv zs) := hrow2
                          have HROW := Lib.hid hrow2'
                          clear hrow2 hrow2'
                          go_wp2_with fail
                          refine (HB2.out).mono ?_
                          rintro e w2 ⟨rfl, rfl⟩
                          have hb5 : w.heap.size ≤ (wr.alloc (.cells #[.int .u64 (y : Int)] 34)).heap.size := by have := hbw2.size; simp; omega
                          go_wp2_with (at_builtin; refine wpList_append_one rfl (.tmp 143) (.tmp 145) rfl w.heap.size _ zs.length _ rfl (HROW.out.alloc _) wr.heap.size y rfl (World.cell?_alloc_new _ _ _ _) (by omega) hb5 ?_)
                          intro v' w5 hown5 hgrow5
                          go_wp2_with fail
                          have hbw5 : Below w.heap.size w w5 := (hbw2.alloc hbw2.size _).grown hgrow5 (by have := hbw2.size; simp; omega) (fun k hk => (HROW.out.lt k hk).1)
                          refine ⟨⟨j + 1, by omega, by go_num, ?_, Lib.hid (fun q h1 h2 => by omega), hbw5⟩, by simp [intOf]; omega⟩
                          rw [HSN.out]; unfold NumRow; rw [List.length_append, hxl2]; simpa [nv, hxl2] using hown5
                      · obtain rfl : j = T := by omega
                        have hZt : (Z : Int) ≤ (t'.size : Int) := by omega
                        have hwz : B.wd (ys.drop (min left j)) = 0 := wd_eq _ (fun q hq => by
                          rw [List.length_drop] at hq
                          have e : (ys.drop (min left j)).getD q 0 = ys.getD (min left j + q) 0 := by simp [List.getD, List.getElem?_drop]
                          rw [e]; exact HQ.out _ (by omega) (by omega))
                        have hgo := HGO.out (by rw [hwz]; simp)
                        simp only [H.Part.nums] at hgo
                        have hxl2 : (xs ++ ys.take (min j left)).length = xs.length + min j left := by rw [List.length_append, List.length_take]; omega
                        have hyl2 : (ys.take (min left j)).length = min left j := by rw [List.length_take]; omega
                        rw [hyl2] at hgo
                        have HGO2 := Lib.hid hgo
                        clear hgo hwz hyl2
                        go_wp2_with fail
                        refine ⟨⟨t'.extract Z t'.size, xs ++ ys.take (min j left), by rw [hts'], by simp; omega, by omega, hrow2, Lib.hid ?_, hbw2⟩, ?_⟩
                        · rw [HGO2.out, cut_data, HTD.out, List.drop_drop, hxl2, Nat.min_comm left j, show many - (xs.length + min j left) = left - min j left by omega]
                        · obtain ⟨a3, c3, e3, _⟩ := numRow_nums hrow2
                          rw [e3]; simp [lenS]; omega
          · rw [if_neg hp] at hf
            by_cases hq : left < h / 2
            · rw [if_pos hq] at hf; omega
            · clear hf
              obtain ⟨m, hm2⟩ : ∃ m, m = h / 2 := ⟨_, rfl⟩
              obtain ⟨T, hT⟩ : ∃ T, T = 1 := ⟨_, rfl⟩
              have hmb : 1 ≤ m ∧ m ≤ left := by omega
              have hTb : 1 ≤ T ∧ T ≤ 64 := by omega
              have hheld : H.held h = T := by unfold H.held; rw [if_neg hp, hT]
              have g5 : ((h : Int) % 2 == 0) = true := by rw [beq_iff_eq]; omega
              have g6 : ((h : Int) % 2 == 1) = false := by rw [beq_eq_false_iff_ne]; omega
              have g7 : decide ((left : Int) < (h : Int) / 2) = false := by simp; omega
              have hhm : ((h : Int) / 2) = (m : Int) := by omega
              have hwt2 : IntKind.i64.wrap (m : Int) = (m : Int) := by rw [IntKind.wrap_i64]; omega
              obtain ⟨M, hM⟩ : ∃ M, M = T * wide := ⟨_, rfl⟩
              have hM4 : M ≤ 64 * 64 := by rw [hM]; exact Nat.mul_le_mul hTb.2 hw
              obtain ⟨Z, hZ⟩ : ∃ Z, Z = B.sz M := ⟨_, rfl⟩
              have hZb : Z ≤ 512 ∧ M ≤ 8 * Z ∧ 8 * Z ≤ M + 7 := by rw [hZ]; unfold B.sz; omega
              obtain ⟨Z8, hZ8⟩ : ∃ Z8, Z8 = 8 * Z := ⟨_, rfl⟩
              rw [hheld, ← hM, ← hZ] at hfo
              have hq6 : (wide : Int) = (M : Int) := by rw [hM, hT]; simp
              have hq3 : (((M : Int) + 7) / 8) = (Z : Int) := by rw [hZ]; unfold B.sz; omega
              have hq8 : ((8 : Int) * (Z : Int)) = (Z8 : Int) := by omega
              have hZ8b : M ≤ Z8 ∧ Z8 ≤ M + 7 := by omega
              have HZ8 := Lib.hid hZ8
              have HM := Lib.hid hM
              have HTT := Lib.hid hT
              have HHM := Lib.hid hm2
              subst hT
              rw [Nat.one_mul] at hM
              have hM' := hM.symm
              clear hM
              subst hM'
              clear hq6
              clear hZ hZ8 hm2 
              by_cases hsh : t'.size < Z
              · have HE := Lib.hid (HRE.out 5 (by rw [hfo, if_pos (by omega)]) (by omega))
                clear hfo hnum hrow
                go_wp2_with fail
                refine (HVO.out _).mono ?_
                rintro e w1 ⟨rfl, hb1⟩
                go_wp2_with fail
                go_ret2
                rw [HE.out]
                exact ⟨none, 0, rfl, Nums.nil _ _ _, below_then hbw hb1⟩
              · rw [if_neg (by omega)] at hfo
                obtain ⟨X, hX⟩ : ∃ X, X = B.leN ((t.data.toList.drop k).take Z) := ⟨_, rfl⟩
                unfold H.body at hfo
                rw [← hX, hheld, Nat.one_mul , if_pos (show h % 2 = 0 by omega)] at hfo
                have hdl : Z ≤ (t.data.toList.drop k).length := by rw [List.length_drop, len_data]; omega
                have hdt : ((t.data.toList.drop k).take Z).length = Z := by rw [List.length_take]; omega
                have HBT := Lib.hid (fun p (hp : p < Z8) w => show Calls Tryz.prog 92 #[.string t', .int .i64 p] w (fun e w' => e = .returned (.int .u64 ((X / 2 ^ p % 2 : Nat) : Int)) ∧ w = w') by
                  have := HZ8.out
                  have h1 := textBit_any t' p w (by omega) (by omega)
                  rw [HTD.out, bit_take _ Z p hdl (by omega), ← hX] at h1
                  exact h1)
                have HBA := Lib.hid (fun f (hf : f + wide ≤ Z8) w => show Calls Tryz.prog 125 #[.string t', .int .i64 f, .int .i64 wide] w (fun e w' => e = .returned (.int .u64 ((X / 2 ^ f % 2 ^ wide : Nat) : Int)) ∧ w = w') by
                  have := HZ8.out
                  have h1 := bitsAt_any t' f wide w hw (by omega) (by omega)
                  rw [HTD.out, bits_take _ Z f wide hdl (by omega), ← hX] at h1
                  exact h1)
                have HTOP := Lib.hid (show X / 2 ^ wide % 2 ^ (Z8 - wide) = 0 → X / 2 ^ wide = 0 from fun h => by
                  rw [hX] at h ⊢; rw [HZ8.out] at h
                  exact top_take _ Z wide hdt (by have := HZ8.out; omega) h)
                have HFO := Lib.hid hfo
                have HBAD := Lib.hid (show X / 2 ^ wide ≠ 0 → R = ([], 1) from fun hx => HRE.out 1 (by rw [hfo, if_pos hx]) (by omega))
                have hd1 : decide (left < m) = false := by simp; omega
                have hd2 : decide (t.size - k < Z) = false := by simp; omega
                clear hfo hX hdl hdt hheld hp hm0
                go_wp2_with fail
                refine (HVO.out _).mono ?_
                rintro e w1 ⟨rfl, hb1⟩
                have hbw1 := below_then hbw hb1
                have hrow1 : NumRow w.heap.size xs (.slice a xs.length c) w1 := row_below hrow hb1
                clear hrow hnum
                go_wp2_with fail
                rw [← HT'.out]
                simp only [hq3]
                go_loop [15] (fun i => ∃ p : Nat, wide ≤ p ∧ p ≤ Z8 ∧ i = .int .i64 p ∧ Hid (X / 2 ^ wide % 2 ^ (p - wide) = 0)) (fun i => Z8 - (intOf i).toNat)
                case atStart => exact ⟨wide, Nat.le_refl _, by omega, rfl, Lib.hid (by simp [Nat.mod_one])⟩
                case round =>
                  obtain ⟨p, hp1, hp2, rfl, HL⟩ := hrel
                  by_cases hpz : p < Z8
                  · have htb := HBT.out p hpz w1
                    have hls := low_step X wide p hp1 HL.out
                    have hbo := bit_one X wide p hp1
                    have hb2 : X / 2 ^ p % 2 < 2 := by omega
                    generalize X / 2 ^ p % 2 = bt at *
                    have HTBp := Lib.hid htb
                    clear htb
                    by_cases hone : bt = 1
                    · subst hone
                      have HE := Lib.hid (HBAD.out (hbo rfl))
                      clear hbo hls
                      go_wp2_with fail
                      refine (HTBp.out).mono ?_
                      rintro e w2 ⟨rfl, rfl⟩
                      go_wp2_with fail
                      go_ret2
                      rw [HE.out]
                      exact ⟨none, 0, rfl, Nums.nil _ _ _, hbw1⟩
                    · obtain rfl : bt = 0 := by omega
                      have HLS := Lib.hid (hls rfl)
                      clear hls hbo
                      go_wp2_with fail
                      refine (HTBp.out).mono ?_
                      rintro e w2 ⟨rfl, rfl⟩
                      go_wp2_with fail
                      exact ⟨⟨p + 1, by omega, by omega, by go_num, HLS⟩, by simp [intOf]; omega⟩
                  · obtain rfl : p = Z8 := by omega
                    have HX0 := Lib.hid (HTOP.out HL.out)
                    have hgo := HRG.out _ _ (HFO.out.trans (if_neg (by rw [HX0.out]; simp)))
                    rw [dg_one, List.headD_cons, ← HHM.out] at hgo
                    have hba := HBA.out 0 (by omega)
                    rw [Nat.pow_zero, Nat.div_one] at hba
                    generalize X % 2 ^ wide = x at *
                    simp only [H.Part.nums, List.length_replicate] at hgo
                    have HGO := Lib.hid hgo
                    have HB0 := Lib.hid hba
                    clear hgo hba
                    go_wp2_with fail
                    go_loopw [8, 16] (fun v i wr => ∃ j : Nat, j ≤ m ∧ i = .int .i64 j ∧ NumRow w.heap.size (xs ++ List.replicate j x) v wr ∧ Below w.heap.size w wr) (fun _ i _ => m - (intOf i).toNat)
                    case atStart => exact ⟨0, by omega, rfl, by simpa using hrow1, hbw1⟩
                    case round =>
                      obtain ⟨j, hj, rfl, hrow2, hbw2⟩ := hrel
                      by_cases hjm : j < m
                      · have hb2 := HB0.out wr
                        have hxl2 : (xs ++ List.replicate j x).length = xs.length + j := by rw [List.length_append, List.length_replicate]
                        have HSN := Lib.hid (show xs ++ List.replicate (j + 1) x = (xs ++ List.replicate j x) ++ [x] by rw [List.append_assoc, ← List.replicate_succ'])
                        generalize xs ++ List.replicate j x = zs at *
                        have HB2 := Lib.hid hb2
                        have hrow2' : wr.ownsRow w.heap.size 34 1 u8 zs.length (nv zs) := hrow2
                        have HROW := Lib.hid hrow2'
                        clear hb2 hrow2 hrow2'
                        go_wp2_with fail
                        refine (HB2.out).mono ?_
                        rintro e w2 ⟨rfl, rfl⟩
                        have hb5 : w.heap.size ≤ (wr.alloc (.cells #[.int .u64 (x : Int)] 34)).heap.size := by have := hbw2.size; simp; omega
                        go_wp2_with (at_builtin; refine wpList_append_one rfl (.tmp 116) (.tmp 120) rfl w.heap.size _ zs.length _ rfl (HROW.out.alloc _) wr.heap.size x rfl (World.cell?_alloc_new _ _ _ _) (by omega) hb5 ?_)
                        intro v' w5 hown5 hgrow5
                        go_wp2_with fail
                        have hbw5 : Below w.heap.size w w5 := (hbw2.alloc hbw2.size _).grown hgrow5 (by have := hbw2.size; simp; omega) (fun k hk => (HROW.out.lt k hk).1)
                        refine ⟨⟨j + 1, by omega, by go_num, ?_, hbw5⟩, by simp [intOf]; omega⟩
                        rw [HSN.out]; unfold NumRow; rw [List.length_append, hxl2]; simpa [nv, hxl2] using hown5
                      · obtain rfl : j = m := by omega
                        have hZt : (Z : Int) ≤ (t'.size : Int) := by omega
                        have hxl2 : (xs ++ List.replicate j x).length = xs.length + j := by rw [List.length_append, List.length_replicate]
                        go_wp2_with fail
                        refine ⟨⟨t'.extract Z t'.size, xs ++ List.replicate j x, by rw [hts'], by simp; omega, by omega, hrow2, Lib.hid ?_, hbw2⟩, ?_⟩
                        · rw [HGO.out, cut_data, HTD.out, List.drop_drop, hxl2, show many - (xs.length + j) = left - j by omega]
                        · obtain ⟨a3, c3, e3, _⟩ := numRow_nums hrow2
                          rw [e3]; simp [lenS]; omega
        · have hfe : H.fit h left = if h / 2 = 0 then 1 else 2 := by
            unfold H.fit at hf ⊢
            by_cases hm0 : h / 2 = 0
            · rw [if_pos hm0, if_pos hm0]
            · rw [if_neg hm0] at hf; rw [if_neg hm0, if_neg hm0]
              by_cases hc : (if h % 2 = 1 then H.nb left else left) < h / 2
              · rw [if_pos hc]
              · rw [if_neg hc] at hf; exact absurd rfl hf
          rw [if_pos hf, hfe] at hfo
          by_cases hm0 : h / 2 = 0
          · rw [if_pos hm0] at hfo
            have HE := Lib.hid (HRE.out 1 (by rw [hfo]) (by omega))
            have g4 : decide ((h : Int) < 2) = true := by simp; omega
            clear hfo hf hfe hnum hrow
            go_wp2_with fail
            refine (HVO.out _).mono ?_
            rintro e w1 ⟨rfl, hb1⟩
            go_wp2_with fail
            go_ret2
            rw [HE.out]
            exact ⟨none, 0, rfl, Nums.nil _ _ _, below_then hbw hb1⟩
          · rw [if_neg hm0] at hfo
            have HE := Lib.hid (HRE.out 2 (by rw [hfo]) (by omega))
            have g4 : decide ((h : Int) < 2) = false := by simp; omega
            have hlim : (if h % 2 = 1 then H.nb left else left) < h / 2 := by
              unfold H.fit at hf
              rw [if_neg hm0] at hf
              by_cases hc : (if h % 2 = 1 then H.nb left else left) < h / 2
              · exact hc
              · rw [if_neg hc] at hf; exact absurd rfl hf
            clear hfo hf hfe hnum hrow
            by_cases hp : h % 2 = 1
            · rw [if_pos hp, ← HNB.out] at hlim
              have g5 : ((h : Int) % 2 == 0) = false := by rw [beq_eq_false_iff_ne]; omega
              have g6 : ((h : Int) % 2 == 1) = true := by rw [beq_iff_eq]; omega
              have g7 : decide ((NB : Int) < (h : Int) / 2) = true := by simp; omega
              go_wp2_with fail
              refine (HVO.out _).mono ?_
              rintro e w1 ⟨rfl, hb1⟩
              go_wp2_with fail
              go_ret2
              rw [HE.out]
              exact ⟨none, 0, rfl, Nums.nil _ _ _, below_then hbw hb1⟩
            · rw [if_neg hp] at hlim
              have g5 : ((h : Int) % 2 == 0) = true := by rw [beq_iff_eq]; omega
              have g7 : decide ((left : Int) < (h : Int) / 2) = true := by simp; omega
              go_wp2_with fail
              refine (HVO.out _).mono ?_
              rintro e w1 ⟨rfl, hb1⟩
              go_wp2_with fail
              go_ret2
              rw [HE.out]
              exact ⟨none, 0, rfl, Nums.nil _ _ _, below_then hbw hb1⟩
      · obtain ⟨er, her, hre⟩ : ∃ er, er ≠ 0 ∧ V.rd t.data.toList = (0, 0, er) := by
          rcases V.rd_bad t.data.toList with h0 | h5 | h1
          · exact absurd h0 hrd
          · exact ⟨5, by omega, h5⟩
          · exact ⟨1, by omega, h1⟩
        have HE := Lib.hid (HRE.out er (first_e1 t.data.toList left wide er (by rw [hre]) her) her)
        have g4 : ((er : Int) != 0) = true := by rw [bne_iff_ne]; omega
        rw [hre] at hvo
        have HVO := Lib.hid hvo
        clear hvo hrd hre hnum hrow
        go_wp2_with fail
        refine (HVO.out _).mono ?_
        rintro e w1 ⟨rfl, hb1⟩
        go_wp2_with fail
        go_ret2
        rw [HE.out]
        exact ⟨none, 0, rfl, Nums.nil _ _ _, below_then hbw hb1⟩
    · obtain rfl : many = xs.length := by omega
      have hz : xs.length - xs.length = 0 := Nat.sub_self _
      have HK2 := Lib.hid (show R = H.pre xs ([], if t.data.toList = [] then 0 else 1) by rw [HK.out, hz, H.read_zero])
      by_cases ht : t.size = 0
      · have HE := Lib.hid (show R = (xs, 0) by rw [HK2.out, if_pos (data_empty t ht)]; simp [H.pre])
        go_wp2_with fail
        go_ret2
        rw [HE.out]
        exact ⟨_, _, rfl, hnum, hbw⟩
      · have HE := Lib.hid (show R = ([], 1) by rw [HK2.out, if_neg (data_ne t ht)]; simp [H.pre])
        go_wp2_with fail
        go_ret2
        rw [HE.out]
        exact ⟨none, 0, rfl, Nums.nil _ _ _, hbw⟩
set_option maxHeartbeats 400000 in
theorem hof_range (s : ByteArray) (many wide : Int) (w : World) (h : wide < 0 ∨ 64 < wide ∨ many < 0) :
    Calls Tryz.prog 95 #[.string s, .int .i64 many, .int .i64 wide] w (AllPost ([], 3) w) := by
  by_cases h0 : wide < 0
  · have g1 : decide (wide < 0) = true := by simp; omega
    go_enter Tryz.func95, Tryz.ntmps95
    go_wp2_with fail
    go_ret2
    exact ⟨none, 0, rfl, Nums.nil _ _ _, Below.refl _ _⟩
  · have g1 : decide (wide < 0) = false := by simp; omega
    by_cases h1 : 64 < wide
    · have g2 : decide (64 < wide) = true := by simp; omega
      go_enter Tryz.func95, Tryz.ntmps95
      go_wp2_with fail
      go_ret2
      exact ⟨none, 0, rfl, Nums.nil _ _ _, Below.refl _ _⟩
    · have g2 : decide (64 < wide) = false := by simp; omega
      have g3 : decide (many < 0) = true := by simp; omega
      go_enter Tryz.func95, Tryz.ntmps95
      go_wp2_with fail
      go_ret2
      exact ⟨none, 0, rfl, Nums.nil _ _ _, Below.refl _ _⟩
set_option maxHeartbeats 400000 in
theorem hof_many (s : ByteArray) (many : Int) (wide : Nat) (w : World) (h : wide ≤ 64) (hm : 64 < many) :
    Calls Tryz.prog 95 #[.string s, .int .i64 many, .int .i64 wide] w (AllPost ([], 2) w) := by
  have g1 : decide ((wide : Int) < 0) = false := by simp
  have g2 : decide ((64 : Int) < (wide : Int)) = false := by simp; omega
  have g3 : decide (many < 0) = false := by simp; omega
  have g4 : decide (64 < many) = true := by simp; omega
  go_enter Tryz.func95, Tryz.ntmps95
  go_wp2_with fail
  go_ret2
  exact ⟨none, 0, rfl, Nums.nil _ _ _, Below.refl _ _⟩
theorem hof_any (s : ByteArray) (many wide : Int) (w : World) (hs : s.size ≤ maxLen) :
    Calls Tryz.prog 95 #[.string s, .int .i64 many, .int .i64 wide] w (AllPost (hreadR s.data.toList many wide) w) := by
  unfold hreadR
  by_cases h0 : wide < 0 ∨ 64 < wide ∨ many < 0
  · rw [if_pos h0]; exact hof_range s many wide w h0
  rw [if_neg h0]
  obtain ⟨n, rfl⟩ : ∃ n : Nat, wide = n := ⟨wide.toNat, by omega⟩
  by_cases h1 : 64 < many
  · rw [if_pos h1]; exact hof_many s many n w (by omega) h1
  obtain ⟨m, rfl⟩ : ∃ m : Nat, many = m := ⟨many.toNat, by omega⟩
  rw [if_neg h1, Int.toNat_natCast, Int.toNat_natCast]
  exact hof_in s m n w hs (by omega) (by omega)
end Go.Proofs.YtcachhnhncodoaaGreat
namespace Go.Proofs.YtcachhnhncodoaaGreat
open Go.RowKit
set_option linter.unusedVariables false
theorem AllPost.none {w w' : World} (er : Nat) (h : Below w.heap.size w w') : AllPost ([], er) w (.returned (.tuple #[.slice none 0 0, .int .i64 er])) w' :=
  ⟨Option.none, 0, rfl, Nums.nil _ _ _, h⟩
theorem sums_cons (n : Nat) (l : List Nat) (hn : n < 18446744073709551616) : D.sums (n :: l) = n :: D.runF D.fs n l := by
  unfold D.sums
  have e : (D.fs 0 n) = (n, n) := by unfold D.fs; rw [show (0 + n) % 18446744073709551616 = n by omega]
  simp only [D.runF, e]
theorem zags_take (zs : List Nat) (k : Nat) (h : k < zs.length) : D.zags (zs.take (k + 1)) = D.zags (zs.take k) ++ [D.zag (zs.getD k 0)] := by
  have e : zs.take (k + 1) = zs.take k ++ [zs.getD k 0] := by
    rw [List.take_succ_eq_append_getElem h]; simp [List.getD, List.getElem?_eq_getElem h]
  rw [e]; simp [D.zags]
set_option maxHeartbeats 2000000 in
set_option maxRecDepth 100000 in
theorem dof_in (s : ByteArray) (many : Nat) (w : World) (hs : s.size ≤ maxLen) (hm1 : 1 ≤ many) (hm : many ≤ 64) :
    Calls Tryz.prog 93 #[.string s, .int .i64 many] w (AllPost (dread2 (parseR s.data.toList many)) w) := by
  have hv := fun w => vof_all s w hs
  have hmax := hs
  unfold maxLen at hmax
  have gm1 : decide ((many : Int) < 0) = false := by simp
  have gm2 : decide ((64 : Int) < (many : Int)) = false := by simp; omega
  have gm3 : ((many : Int) == 0) = false := by rw [beq_eq_false_iff_ne]; omega
  unfold parseR
  by_cases he : (V.rd s.data.toList).2.2 = 0
  · rw [if_neg (by simp [he])]
    obtain ⟨n, k, hr⟩ : ∃ n k, V.rd s.data.toList = (n, k, 0) := ⟨_, _, by rw [← he]⟩
    obtain ⟨k1, k2, _, k4, k5, _⟩ := V.rd_ok _ _ _ hr
    rw [hr] at hv ⊢
    rw [len_data] at k2 ⊢
    have HV := Lib.hid hv
    clear hv hr he
    by_cases hl : s.size = k
    · rw [if_pos hl]
      have g1 : ((s.size : Int) == (k : Int)) = true := by rw [beq_iff_eq]; omega
      go_enter Tryz.func93, Tryz.ntmps93
      go_wp2_with fail
      refine (HV.out _).mono ?_
      rintro e1 w1 ⟨rfl, hb⟩
      go_wp2_with fail
      go_ret2
      exact AllPost.none 5 hb
    · rw [if_neg hl]
      have g1 : ((s.size : Int) == (k : Int)) = false := by rw [beq_eq_false_iff_ne]; omega
      have hks : k < s.size := by omega
      have hksI : (k : Int) < (s.size : Int) := by omega
      have hks2 : ((k + 1 : Nat) : Int) ≤ (s.size : Int) := by omega
      have hsub : ((many : Int) - 1) = ((many - 1 : Nat) : Int) := by omega
      have hbyte : s.data.toList.getD k 0 = s[k] := by simp [List.getD, ByteArray.getElem_eq_getElem_data, hks]
      simp only [hbyte]
      have hu8 := s[k].toNat_lt
      have hw64 : wrap64 (s[k].toNat : Int) = (s[k].toNat : Int) := by
        unfold wrap64; omega
      have hrd := fun W => hof_any (s.extract (k + 1) s.size) ((many - 1 : Nat) : Int) (s[k].toNat : Int) W (by simp; unfold maxLen; omega)
      rw [cut_data] at hrd
      have hrl := hreadR_lt (s.data.toList.drop (k + 1)) ((many - 1 : Nat) : Int) (s[k].toNat : Int)
      have hrn := hreadR_len (s.data.toList.drop (k + 1)) ((many - 1 : Nat) : Int) (s[k].toNat : Int)
      rw [Int.toNat_natCast] at hrn
      generalize hreadR (s.data.toList.drop (k + 1)) ((many - 1 : Nat) : Int) (s[k].toNat : Int) = r at *
      obtain ⟨zs, er⟩ := r
      simp only at hrl hrn
      have HRD := Lib.hid hrd
      have HWD := Lib.hid (fun W A c' h => rwidth_any A c' zs W W.heap.size (by unfold maxLen; omega) hrl h)
      clear hrd hbyte
      unfold parse2
      simp only
      by_cases hz : er = 0
      · subst hz
        rw [if_neg (by simp)]
        by_cases hwe : B.wd zs = s[k].toNat
        · rw [if_neg (by simp [hwe])]
          rw [hwe] at HWD
          have HZX := Lib.hid hrl
          have HRES := Lib.hid (show dread2 (n, zs, 0) = (n :: D.runF D.fs n (D.zags zs), 0) by unfold dread2; rw [if_neg (by simp), sums_cons n _ k4])
          have HTK := Lib.hid (fun k h => zags_take zs k h)
          have HSN := Lib.hid (fun l x => D.runF_snoc D.fs n l x)
          have HEL := Lib.hid (fun k => D.endF_lt D.fs (fun b x hb hx => (D.fs_lt b x hb hx).1) n k4 (D.zags (zs.take k)) (D.zags_lt (zs.take k) (fun x h => hrl x (List.mem_of_mem_take h))))
          have HLN := Lib.hid (fun k (h : k ≤ zs.length) => show (D.runF D.fs n (D.zags (zs.take k))).length = k by rw [D.runF_length]; simp [D.zags]; omega)
          clear hrl hwe
          go_enter Tryz.func93, Tryz.ntmps93
          go_wp2_with fail
          refine (HV.out _).mono ?_
          rintro e1 w1 ⟨rfl, hb⟩
          go_wp2_with fail
          refine (HRD.out _).mono ?_
          rintro e2 w2 ⟨A, c2, rfl, hn2, hb2⟩
          have N2 := Lib.hid hn2
          clear hn2
          go_wp2_with fail
          refine (HWD.out _ _ _ N2.out).mono ?_
          rintro e3 w3 ⟨rfl, rfl⟩
          have hlit := World.ownsRow_lit (base := w2.heap.size) (e := 34) (size := 1) w2 #[.int .u64 (n : Int)] 1 (Nat.le_refl _) (by decide) rfl
          have hrow0 : NumRow w2.heap.size [n] (.slice (some ⟨w2.heap.size, 0, none⟩) 1 1) (w2.alloc (.cells #[.int .u64 (n : Int)] 34)) := hlit
          have hb20 : Below w2.heap.size w2 (w2.alloc (.cells #[.int .u64 (n : Int)] 34)) := (Below.refl _ _).alloc (Nat.le_refl _) _
          clear hlit
          go_wp2_with fail
          go_loopw [6, 11, 12] (fun x v i wr => ∃ k : Nat, k ≤ zs.length ∧ i = .int .i64 k ∧ x = .int .u64 ((D.endF D.fs n (D.zags (zs.take k)) : Nat) : Int) ∧ NumRow w2.heap.size (n :: D.runF D.fs n (D.zags (zs.take k))) v wr ∧ Below w2.heap.size w2 wr) (fun _ _ i _ => zs.length - (intOf i).toNat)
          case atStart => exact ⟨0, by omega, rfl, rfl, hrow0, hb20⟩
          case round =>
            obtain ⟨j, hj, rfl, rfl, hrow, hbw⟩ := hrel
            by_cases hlt : j < zs.length
            · obtain ⟨b, off, rfl, hbl, hcc⟩ := N2.out (fun e => by rw [e] at hlt; simp at hlt)
              have cj := (hbw.cell (p := ⟨b, off + j, none⟩) hbl).trans (hcc j hlt)
              have hxj := HZX.out _ (getD_mem zs j hlt)
              have hel := HEL.out j
              have hln := HLN.out j hj
              have HT := Lib.hid (HTK.out j hlt)
              have HS := Lib.hid (HSN.out (D.zags (zs.take j)) (D.zag (zs.getD j 0)))
              generalize zs.getD j 0 = x at *
              have HZ := Lib.hid (fun W => rzag_any x W hxj)
              have hzb := D.zag_lt x hxj
              generalize D.zag x = z at *
              generalize D.zags (zs.take j) = zt at *
              generalize D.endF D.fs n zt = y at *
              have HS1 := Lib.hid (show D.runF D.fs n (zt ++ [z]) = D.runF D.fs n zt ++ [(y + z) % 18446744073709551616] from HS.out.1)
              have HS2 := Lib.hid (show D.endF D.fs n (zt ++ [z]) = (y + z) % 18446744073709551616 from HS.out.2)
              generalize D.runF D.fs n zt = acc at *
              have hwrap : IntKind.u64.wrap ((y : Int) + (z : Int)) = (((y + z) % 18446744073709551616 : Nat) : Int) := by rw [IntKind.wrap_u64]; omega
              generalize (y + z) % 18446744073709551616 = q at *
              have hlb : ((n :: acc).length + 1) * 8 ≤ 140737488355328 := by rw [List.length_cons]; omega
              have hown : wr.ownsRow w2.heap.size 34 1 u11 (n :: acc).length (nv (n :: acc)) := hrow
              have HOWN := Lib.hid hown
              have hb5 : w2.heap.size ≤ (wr.alloc (.cells #[.int .u64 (q : Int)] 34)).heap.size := by have := hbw.size; simp; omega
              clear hrow hown hln hcc HS
              go_wp2_with fail
              refine (HZ.out _).mono ?_
              rintro e w9 ⟨rfl, rfl⟩
              go_wp2_with (at_builtin; refine wpList_append_one rfl (.tmp 72) (.tmp 74) rfl w2.heap.size _ (n :: acc).length _ rfl (HOWN.out.alloc _) wr.heap.size q rfl (World.cell?_alloc_new _ _ _ _) hlb hb5 ?_)
              intro v' w5 hown5 hgrow5
              have hbw5 : Below w2.heap.size w2 w5 := (hbw.alloc hbw.size _).grown hgrow5 (by have := hbw.size; simp; omega) (fun k hk => (HOWN.out.lt k hk).1)
              go_wp2_with fail
              refine ⟨⟨j + 1, by omega, by go_num, by rw [HT.out, HS2.out], ?_, hbw5⟩, by simp [intOf]; omega⟩
              rw [HT.out, HS1.out, ← List.cons_append]; unfold NumRow; rw [List.length_append]; simpa [nv] using hown5
            · obtain rfl : j = zs.length := by omega
              rw [List.take_length] at hrow
              obtain ⟨a', c', rfl, hn⟩ := numRow_nums hrow
              have HN := Lib.hid hn
              clear hrow hn
              go_wp2_with fail
              go_ret2
              rw [HRES.out]
              exact ⟨a', c', rfl, HN.out, below_then (below_then hb hb2) hbw⟩
        · rw [if_pos hwe]
          have g2 : ((B.wd zs : Int) != (s[k].toNat : Int)) = true := by rw [bne_iff_ne]; omega
          clear hrl
          go_enter Tryz.func93, Tryz.ntmps93
          go_wp2_with fail
          refine (HV.out _).mono ?_
          rintro e1 w1 ⟨rfl, hb⟩
          go_wp2_with fail
          refine (HRD.out _).mono ?_
          rintro e2 w2 ⟨A, c2, rfl, hn2, hb2⟩
          go_wp2_with fail
          refine (HWD.out _ _ _ hn2).mono ?_
          rintro e3 w3 ⟨rfl, rfl⟩
          go_wp2_with fail
          go_ret2
          exact AllPost.none 1 (below_then hb hb2)
      · rw [if_pos hz]
        have g2 : ((er : Int) != 0) = true := by rw [bne_iff_ne]; omega
        have HRES := Lib.hid (show dread2 (0, [], er) = ([], er) by unfold dread2; rw [if_pos hz])
        clear hrl
        go_enter Tryz.func93, Tryz.ntmps93
        go_wp2_with fail
        refine (HV.out _).mono ?_
        rintro e1 w1 ⟨rfl, hb⟩
        go_wp2_with fail
        refine (HRD.out _).mono ?_
        rintro e2 w2 ⟨A, c2, rfl, hn2, hb2⟩
        go_wp2_with fail
        go_ret2
        rw [HRES.out]
        exact AllPost.none er (below_then hb hb2)
  · rw [if_pos he]
    generalize V.rd s.data.toList = r at *
    have g1 : ((r.2.2 : Int) != 0) = true := by rw [bne_iff_ne]; omega
    have HV := Lib.hid hv
    have HRES := Lib.hid (show dread2 (0, [], r.2.2) = ([], r.2.2) by unfold dread2; rw [if_pos he])
    clear hv
    go_enter Tryz.func93, Tryz.ntmps93
    go_wp2_with fail
    refine (HV.out _).mono ?_
    rintro e1 w1 ⟨rfl, hb⟩
    go_wp2_with fail
    go_ret2
    rw [HRES.out]
    exact AllPost.none _ hb
theorem dof_any (s : ByteArray) (many : Int) (w : World) (hs : s.size ≤ maxLen) :
    Calls Tryz.prog 93 #[.string s, .int .i64 many] w (AllPost (dreadR s.data.toList many) w) := by
  unfold dreadR
  by_cases h0 : many < 0
  · rw [if_pos h0]
    have g1 : decide (many < 0) = true := by simp; omega
    go_enter Tryz.func93, Tryz.ntmps93
    go_wp2_with fail
    go_ret2
    exact AllPost.none 3 (Below.refl _ _)
  rw [if_neg h0]
  obtain ⟨m, rfl⟩ : ∃ m : Nat, many = m := ⟨many.toNat, by omega⟩
  have g1 : decide ((m : Int) < 0) = false := by simp
  by_cases h1 : 64 < (m : Int)
  · rw [if_pos h1]
    have g2 : decide ((64 : Int) < (m : Int)) = true := by simp; omega
    go_enter Tryz.func93, Tryz.ntmps93
    go_wp2_with fail
    go_ret2
    exact AllPost.none 2 (Below.refl _ _)
  rw [if_neg h1]
  by_cases h2 : (m : Int) = 0
  · rw [if_pos h2]
    obtain rfl : m = 0 := by omega
    by_cases ht : s.size = 0
    · rw [if_pos (data_empty s ht)]
      have g5 : decide ((0 : Int) < (s.size : Int)) = false := decide_eq_false (by omega)
      go_enter Tryz.func93, Tryz.ntmps93
      go_wp2_with fail
      go_ret2
      exact AllPost.none 0 (Below.refl _ _)
    · rw [if_neg (data_ne s ht)]
      have g5 : decide ((0 : Int) < (s.size : Int)) = true := decide_eq_true (by omega)
      have g6 : 0 < s.size := by omega
      go_enter Tryz.func93, Tryz.ntmps93
      go_wp2_with fail
      go_ret2
      exact AllPost.none 1 (Below.refl _ _)
  rw [if_neg h2, Int.toNat_natCast]
  exact dof_in s m w hs (by omega) (by omega)
end Go.Proofs.YtcachhnhncodoaaGreat
namespace Go.Proofs.YtcachhnhncodoaaGreat
open Go.RowKit
set_option linter.unusedVariables false
def MendPost (r : List Nat × Nat) (Bs : Nat) (A : Option Addr) (N c : Nat) (W : World) (e : Ending) (w' : World) : Prop :=
  e = .returned (.int .i64 r.2) ∧ NumRow Bs r.1 (.slice A N c) w' ∧ Below Bs W w'
theorem mend_nil (w n : Nat) (m : List Nat) (nx : Nat) : P.mend w (n + 1) m [] nx = (m, 5) := rfl
theorem mend_end0 (w : Nat) (m : List Nat) (nx : Nat) : P.mend w 0 m [] nx = (m, 0) := rfl
theorem mend_end1 (w : Nat) (m : List Nat) (s : List UInt8) (nx : Nat) (h : s ≠ []) : P.mend w 0 m s nx = (m, 1) := by
  cases s with
  | nil => exact absurd rfl h
  | cons _ _ => rfl
set_option maxHeartbeats 2000000 in
set_option maxRecDepth 100000 in
theorem mend_any (Bs : Nat) (A : Option Addr) (N c many wide : Nat) (m : List Nat) (s : ByteArray) (W : World) (hB : Bs ≤ W.heap.size) (hs : s.size ≤ maxLen) (hk : wide ≤ 64) (hmany : many ≤ 255) (hN : m.length = N) (hN64 : N ≤ 64) (hrow : NumRow Bs m (.slice A N c) W) :
    Calls Tryz.prog 197 #[.slice A N c, .string s, .int .i64 many, .int .i64 wide] W (MendPost (P.mend wide many m s.data.toList 0) Bs A N c W) := by
  have hmax := hs
  unfold maxLen at hmax
  generalize hR : P.mend wide many m s.data.toList 0 = R
  have HR := Lib.hid hR
  have HN := Lib.hid hN
  clear hR hN
  go_enter Tryz.func197, Tryz.ntmps197
  go_wp2_with fail
  go_loopw [1, 9, 15] (fun sv bf i wr => ∃ (j nx : Nat) (t : ByteArray) (b : Int) (xs : List Nat), j ≤ many ∧ i = .int .i64 j ∧ sv = .string t ∧ bf = .int .i64 b ∧ Hid (b = (nx : Int) - 1) ∧ Hid (P.mend wide (many - j) xs t.data.toList nx = R) ∧ t.size ≤ s.size ∧ Hid (xs.length = N) ∧ -1 ≤ b ∧ b ≤ 255 ∧ NumRow Bs xs (.slice A N c) wr ∧ Below Bs W wr ∧ Bs ≤ wr.heap.size) (fun _ _ i _ => many - (intOf i).toNat)
  case atStart => exact ⟨0, 0, s, -1, m, by omega, rfl, rfl, rfl, Lib.hid rfl, HR, Nat.le_refl _, HN, by omega, by omega, hrow, Below.refl _ _, hB⟩
  case round =>
    obtain ⟨j, nx, t, b, xs, hj, rfl, rfl, rfl, HBN, HM, hts, HXL, hb1, hb2, hnr, hbw, hBw⟩ := hrel
    by_cases hlt : j < many
    · have hjI : (j : Int) < (many : Int) := by omega
      obtain ⟨q, hq⟩ : ∃ q, many - j = q + 1 := ⟨many - j - 1, by omega⟩
      have hM := HM.out
      rw [hq] at hM
      have HQ := Lib.hid hq
      clear hq HM
      by_cases h0 : t.size = 0
      · have he := empty_true t h0
        rw [data_empty t h0, mend_nil] at hM
        have HM := Lib.hid hM
        clear hM
        go_wp2_with fail
        go_ret
        exact ⟨by rw [← HM.out]; rfl, by rw [← HM.out]; exact hnr, hbw⟩
      · have he := empty_false t h0
        have hp : 0 < t.size := by omega
        have hpI : (0 : Int) < (t.size : Int) := by omega
        obtain ⟨tl, hd⟩ := head_cons t hp
        have hdt : (t.extract 1 t.size).data.toList = tl := by rw [cut_data, hd]; rfl
        rw [hd] at hM
        unfold P.mend at hM
        have hu8 := t[0].toNat_lt
        obtain ⟨cc, hcc⟩ : ∃ cc, cc = t[0].toNat := ⟨_, rfl⟩
        have hc256 : cc < 256 := by omega
        have HW := Lib.hid (show wrap64 (t[0].toNat : Int) = (cc : Int) by unfold wrap64; omega)
        rw [← hcc] at hM
        have hsl1 : (1 : Int) ≤ (t.size : Int) := by omega
        have HDT := Lib.hid hdt
        clear hcc hd hdt hu8
        by_cases h1 : xs.length ≤ cc
        · rw [if_pos h1] at hM
          have HM := Lib.hid hM
          rw [HXL.out] at h1
          have g1 : decide (N ≤ cc) = true := decide_eq_true h1
          clear hM
          have hw64 := HW.out
          go_wp2_with fail
          go_ret
          exact ⟨by rw [← HM.out]; rfl, by rw [← HM.out]; exact hnr, hbw⟩
        rw [if_neg h1] at hM
        have hcN : cc < N := by have := HXL.out; omega
        have g1 : decide (N ≤ cc) = false := decide_eq_false (by omega)
        have hcNI : (cc : Int) < (N : Int) := by omega
        have hcx : cc < xs.length := by omega
        clear h1
        by_cases h2 : cc < nx
        · rw [if_pos h2] at hM
          have HM := Lib.hid hM
          have g2 : decide ((cc : Int) ≤ b) = true := decide_eq_true (by have := HBN.out; omega)
          clear hM
          have hw64 := HW.out
          go_wp2_with fail
          go_ret
          exact ⟨by rw [← HM.out]; rfl, by rw [← HM.out]; exact hnr, hbw⟩
        rw [if_neg h2] at hM
        have hbc : b < (cc : Int) := by have := HBN.out; omega
        have g2 : decide ((cc : Int) ≤ b) = false := decide_eq_false (by omega)
        obtain ⟨g, rfl, hclr, hgB, hgw⟩ := hnr.form (fun e => by rw [e] at hcx; simp at hcx)
        have ck := hnr.cell cc hcx
        have fk := hnr.free cc
        clear h2 hclr
        by_cases h3 : xs.getD cc 0 ≠ 0
        · rw [if_pos h3] at hM
          have HM := Lib.hid hM
          generalize xs.getD cc 0 = x at *
          have g3 : ((x : Int) != 0) = true := by rw [bne_iff_ne]; omega
          clear hM
          have hw64 := HW.out
          go_wp2_with fail
          go_ret
          exact ⟨by rw [← HM.out]; rfl, by rw [← HM.out]; exact hnr, hbw⟩
        rw [if_neg h3] at hM
        generalize xs.getD cc 0 = x at *
        have g3 : ((x : Int) != 0) = false := by rw [bne_eq_false_iff_eq]; omega
        clear h3
        have hrd := fun W => vread_any (t.extract 1 t.size) W (by simp; unfold maxLen; omega)
        rw [HDT.out] at hrd
        have hbad := V.rd_bad tl
        have hok := fun n k (h : V.rd tl = (n, k, 0)) => V.rd_ok tl n k h
        generalize V.rd tl = r at *
        obtain ⟨n, k, er⟩ := r
        simp only at hM hbad
        have HRD := Lib.hid hrd
        clear hrd
        by_cases h4 : er ≠ 0
        · rw [if_pos h4] at hM
          have HM := Lib.hid hM
          have g4 : ((er : Int) != 0) = true := by rw [bne_iff_ne]; omega
          clear hM hbad hok
          have hw64 := HW.out
          go_wp2_with fail
          refine (HRD.out _).mono ?_
          rintro e w2 ⟨rfl, hbb⟩
          go_wp2_with fail
          go_ret
          exact ⟨by rw [← HM.out]; rfl, by rw [← HM.out]; exact hnr.below hbb, hbw.trans (hbb.mono hBw)⟩
        rw [if_neg h4] at hM
        obtain rfl : er = 0 := by omega
        obtain ⟨k1, k2, _, kn, k9, _⟩ := hok n k rfl
        clear h4 hbad hok
        have HPF := Lib.hid (fun W => pfits_any n wide W hk)
        by_cases h5 : B.bl n ≤ wide
        · rw [if_pos h5] at hM
          have HM := Lib.hid hM
          rw [show (!P.out wide n) = true by unfold P.out; rw [Bool.not_not]; exact decide_eq_true h5] at HPF
          clear hM h5
          have hw64 := HW.out
          go_wp2_with fail
          refine (HRD.out _).mono ?_
          rintro e w2 ⟨rfl, hbb⟩
          go_wp2_with fail
          refine (HPF.out _).mono ?_
          rintro e w3 ⟨rfl, rfl⟩
          go_wp2_with fail
          go_ret
          exact ⟨by rw [← HM.out]; rfl, by rw [← HM.out]; exact hnr.below hbb, hbw.trans (hbb.mono hBw)⟩
        rw [if_neg h5] at hM
        have HM := Lib.hid hM
        rw [show (!P.out wide n) = false by unfold P.out; rw [Bool.not_not]; exact decide_eq_false h5] at HPF
        have htk : tl.length + 1 = t.size := by have h := HDT.out; have := congrArg List.length h; rw [len_data] at this; simp at this; omega
        have hks : 1 + k ≤ t.size := by omega
        have hksI : (1 : Int) + (k : Int) ≤ (t.size : Int) := by omega
        have hkI : IntKind.i64.wrap ((1 : Int) + (k : Int)) = ((1 + k : Nat) : Int) := by rw [IntKind.wrap_i64]; omega
        have hdk : (t.extract (1 + k) t.size).data.toList = tl.drop k := by
          rw [cut_data, ← List.drop_drop, ← HDT.out, cut_data]
        have HDK := Lib.hid hdk
        have hNR := Lib.hid hnr
        clear hM h5 hdk hnr htk
        have hw64 := HW.out
        go_wp2_with fail
        refine (HRD.out _).mono ?_
        rintro e w2 ⟨rfl, hbb⟩
        go_wp2_with fail
        refine (HPF.out _).mono ?_
        rintro e w3 ⟨rfl, rfl⟩
        clear hw64
        have hc2 : w2.cell? ⟨g, cc, none⟩ = some (.int .u64 (x : Int)) := (hbb.cell (p := ⟨g, cc, none⟩) hgw).trans ck
        have hf2 : w2.frozen? ⟨g, cc, none⟩ = false := (hbb.frozen (p := ⟨g, cc, none⟩) hgw).trans fk
        have HN2 := Lib.hid ((hNR.out.below hbb).put cc n)
        have HB2 := Lib.hid ((hbw.trans (hbb.mono hBw)).setCell (p := ⟨g, cc, none⟩) hgB (.int .u64 (n : Int)))
        have HS2 := Lib.hid (show Bs ≤ (w2.setCell ⟨g, cc, none⟩ (.int .u64 (n : Int))).heap.size by have := hbb.size; simp; omega)
        have HXL2 := Lib.hid (show (xs.set cc n).length = N by rw [List.length_set]; exact HXL.out)
        have HM2 := Lib.hid (show P.mend wide (many - (j + 1)) (xs.set cc n) (t.extract (1 + k) t.size).data.toList (cc + 1) = R by rw [HDK.out, show many - (j + 1) = q by have := HQ.out; omega]; exact HM.out)
        have hsz2 : (t.extract (1 + k) t.size).size ≤ s.size := by simp; omega
        obtain ⟨t2, ht2⟩ : ∃ t2, t2 = t.extract (1 + k) t.size := ⟨_, rfl⟩
        go_wp2_with fail
        exact ⟨⟨j + 1, cc + 1, _, (cc : Int), xs.set cc n, by omega, by go_num, rfl, rfl, Lib.hid (by omega), HM2, hsz2, HXL2, by omega, by omega, HN2.out, HB2.out, HS2.out⟩, by simp [intOf]; omega⟩
    · obtain rfl : j = many := by omega
      have hM := HM.out
      rw [Nat.sub_self] at hM
      by_cases h0 : t.size = 0
      · have he := empty_true t h0
        rw [data_empty t h0, mend_end0] at hM
        have HM := Lib.hid hM
        clear hM
        go_wp2_with fail
        go_ret
        exact ⟨by rw [← HM.out]; rfl, by rw [← HM.out]; exact hnr, hbw⟩
      · have he := empty_false t h0
        rw [mend_end1 _ _ _ _ (data_ne t h0)] at hM
        have HM := Lib.hid hM
        clear hM
        go_wp2_with fail
        go_ret
        exact ⟨by rw [← HM.out]; rfl, by rw [← HM.out]; exact hnr, hbw⟩
end Go.Proofs.YtcachhnhncodoaaGreat
namespace Go.Proofs.YtcachhnhncodoaaGreat
open Go.RowKit
set_option linter.unusedVariables false
def pparseR (s : List UInt8) (many : Nat) : Nat × List Nat × Nat :=
  if (P.head s many).2.2.2.2.2 ≠ 0 then (0, [], (P.head s many).2.2.2.2.2)
  else ((P.head s many).1, P.mend (P.head s many).2.1 (P.head s many).2.2.2.2.1 (P.head s many).2.2.1 (P.head s many).2.2.2.1 0)
theorem pread_eq (s : List UInt8) (many : Nat) : P.readN s many = if (pparseR s many).2.2 ≠ 0 then ([], (pparseR s many).2.2) else P.fin (pparseR s many).1 ((pparseR s many).2.1, 0) := by
  unfold P.readN pparseR
  generalize P.head s many = h
  by_cases he : h.2.2.2.2.2 ≠ 0
  · simp only [if_pos he]
  · simp only [if_neg he]
    generalize P.mend h.2.1 h.2.2.2.2.1 h.2.2.1 h.2.2.2.1 0 = m
    obtain ⟨xs, er⟩ := m
    unfold P.fin
    by_cases h2 : er ≠ 0
    · simp only [if_pos h2]
    · obtain rfl : er = 0 := by omega
      simp
def PPost (r : Nat × List Nat × Nat) (w : World) (e : Ending) (w' : World) : Prop :=
  ∃ a n c, e = .returned (.tuple #[.int .u64 r.1, .slice a n c, .int .i64 r.2.2]) ∧ n = r.2.1.length ∧ NumRow w.heap.size r.2.1 (.slice a n c) w' ∧ Below w.heap.size w w'
theorem PPost.none {w w' : World} (er : Nat) (h : Below w.heap.size w w') : PPost (0, [], er) w (.returned (.tuple #[.int .u64 0, .slice none 0 0, .int .i64 er])) w' :=
  ⟨Option.none, 0, 0, rfl, rfl, nilRow _ _, h⟩
theorem head_bad (s : List UInt8) (many er : Nat) (h : (P.head s many).2.2.2.2.2 = er) (he : er ≠ 0) : pparseR s many = (0, [], er) := by
  unfold pparseR; rw [h, if_pos he]
theorem head_ok (s : List UInt8) (many b w out : Nat) (p : List Nat) (u : List UInt8) (h : P.head s many = (b, w, p, u, out, 0)) : pparseR s many = (b, P.mend w out p u 0) := by
  unfold pparseR; rw [h]; simp
set_option maxHeartbeats 2000000 in
set_option maxRecDepth 100000 in
theorem pparse_any (s : ByteArray) (many : Nat) (w : World) (hs : s.size ≤ maxLen) (hm : many ≤ 64) :
    Calls Tryz.prog 178 #[.string s, .int .i64 many] w (PPost (pparseR s.data.toList many) w) := by
  have hmax := hs
  unfold maxLen at hmax
  have hv := fun w => vread_any s w hs
  have hbad := V.rd_bad s.data.toList
  have hok := fun n k (h : V.rd s.data.toList = (n, k, 0)) => V.rd_ok s.data.toList n k h
  have hhd : P.head s.data.toList many = P.head s.data.toList many := rfl
  conv at hhd => rhs; unfold P.head
  obtain ⟨b, k, er, hr⟩ : ∃ b k er, V.rd s.data.toList = (b, k, er) := ⟨_, _, _, rfl⟩
  rw [hr] at hv hbad hok hhd
  simp only at hbad hhd
  have HV := Lib.hid hv
  clear hv hr
  by_cases he : er ≠ 0
  · rw [if_pos he] at hhd
    have HR := Lib.hid (head_bad _ _ er (congrArg (fun x => x.2.2.2.2.2) hhd) he)
    have g1 : ((er : Int) != 0) = true := by rw [bne_iff_ne]; omega
    clear hhd hbad hok
    go_enter Tryz.func178, Tryz.ntmps178
    go_wp2_with fail
    refine (HV.out _).mono ?_
    rintro e1 w1 ⟨rfl, hb⟩
    go_wp2_with fail
    go_ret3
    rw [HR.out]
    exact PPost.none er hb
  rw [if_neg he] at hhd
  obtain rfl : er = 0 := by omega
  obtain ⟨k1, k2, hx1, hb64, k9, hx2⟩ := hok b k rfl
  clear hx1 hx2
  rw [len_data] at k2
  clear he hbad hok
  have hkI : IntKind.i64.wrap ((k : Int) + 2) = (k : Int) + 2 := by rw [IntKind.wrap_i64]; omega
  by_cases h2 : s.size < k + 2
  · rw [if_pos (by rw [List.length_drop, len_data]; omega)] at hhd
    have HR := Lib.hid (head_bad _ _ 5 (congrArg (fun x => x.2.2.2.2.2) hhd) (by decide))
    have g2 : decide ((s.size : Int) < (k : Int) + 2) = true := decide_eq_true (by omega)
    clear hhd
    go_enter Tryz.func178, Tryz.ntmps178
    go_wp2_with fail
    refine (HV.out _).mono ?_
    rintro e1 w1 ⟨rfl, hb⟩
    go_wp2_with fail
    go_ret3
    rw [HR.out]
    exact PPost.none 5 hb
  rw [if_neg (by rw [List.length_drop, len_data]; omega)] at hhd
  have g2 : decide ((s.size : Int) < (k : Int) + 2) = false := decide_eq_false (by omega)
  have hk1 : k < s.size := by omega
  have hk2 : k + 1 < s.size := by omega
  have e0 : (s.data.toList.drop k).getD 0 0 = s[k] := by
    simp [List.getD, List.getElem?_drop, ByteArray.getElem_eq_getElem_data, hk1]
  have e1 : (s.data.toList.drop k).getD 1 0 = s[k + 1] := by
    simp [List.getD, List.getElem?_drop, ByteArray.getElem_eq_getElem_data, hk2]
  rw [e0, e1] at hhd
  have hu1 := s[k].toNat_lt
  have hu2 := s[k + 1].toNat_lt
  obtain ⟨wd, hwd⟩ : ∃ wd, wd = s[k].toNat := ⟨_, rfl⟩
  obtain ⟨ct, hct⟩ : ∃ ct, ct = s[k + 1].toNat := ⟨_, rfl⟩
  rw [← hwd, ← hct] at hhd
  have hwb : wd < 256 := by omega
  have hcb : ct < 256 := by omega
  have HW1 := Lib.hid (show wrap64 (s[k].toNat : Int) = (wd : Int) by unfold wrap64; omega)
  have HW2 := Lib.hid (show wrap64 (s[k + 1].toNat : Int) = (ct : Int) by unfold wrap64; omega)
  have hkI1 : IntKind.i64.wrap ((k : Int) + 1) = (k : Int) + 1 := by rw [IntKind.wrap_i64]; omega
  have hk0 : (0 : Int) ≤ (k : Int) := by omega
  have hk10 : (0 : Int) ≤ (k : Int) + 1 := by omega
  have hksI : (k : Int) < (s.size : Int) := by omega
  have hks1I : (k : Int) + 1 < (s.size : Int) := by omega
  have hkt1 : ((k : Int) + 1).toNat = k + 1 := by omega
  have hk2s : (k : Int) + 2 ≤ (s.size : Int) := by omega
  clear hwd hct e0 e1 hu1 hu2 h2
  by_cases h64 : 64 < wd
  · rw [if_pos h64] at hhd
    have HR := Lib.hid (head_bad _ _ 3 (congrArg (fun x => x.2.2.2.2.2) hhd) (by decide))
    have g3 : decide ((64 : Int) < (wd : Int)) = true := decide_eq_true (by omega)
    clear hhd
    go_enter Tryz.func178, Tryz.ntmps178
    go_wp2_with fail
    refine (HV.out _).mono ?_
    rintro e1 w1 ⟨rfl, hb⟩
    have hw1 := HW1.out
    have hw2 := HW2.out
    go_wp2_with fail
    go_quiet (fail)
    rw [hw1, hw2]
    clear hw1 hw2
    go_wp2_with fail
    go_ret3
    rw [HR.out]
    exact PPost.none 3 (below_drewN hb _)
  rw [if_neg h64] at hhd
  have g3 : decide ((64 : Int) < (wd : Int)) = false := decide_eq_false (by omega)
  have hkt2 : ((k : Int) + 2).toNat = k + 2 := by omega
  have hwd64 : wd ≤ 64 := by omega
  have HZ := Lib.hid (fun W => psize_any many wd W hm hwd64)
  have hmul := Nat.mul_le_mul hm hwd64
  have hzb : B.sz (many * wd) ≤ 512 := by unfold B.sz; omega
  have hdT : (s.extract (k + 2) s.size).data.toList = (s.data.toList.drop k).drop 2 := by rw [cut_data, List.drop_drop]
  rw [← hdT] at hhd
  have hTs : (s.extract (k + 2) s.size).size = s.size - (k + 2) := by simp
  rw [len_data, hTs] at hhd
  by_cases h5 : s.size - (k + 2) < B.sz (many * wd)
  · rw [if_pos h5] at hhd
    have HR := Lib.hid (head_bad _ _ 5 (congrArg (fun x => x.2.2.2.2.2) hhd) (by decide))
    generalize B.sz (many * wd) = z at *
    clear hhd hdT hTs
    go_enter Tryz.func178, Tryz.ntmps178
    go_wp2_with fail
    refine (HV.out _).mono ?_
    rintro e1 w1 ⟨rfl, hb⟩
    have hw1 := HW1.out
    have hw2 := HW2.out
    go_wp2_with fail
    go_quiet (fail)
    rw [hw1, hw2]
    clear hw1 hw2
    go_wp2_with fail
    refine (HZ.out _).mono ?_
    rintro e2 w2 ⟨rfl, rfl⟩
    go_wp2_with fail
    go_ret3
    rw [HR.out]
    exact PPost.none 5 (below_drewN hb _)
  rw [if_neg h5] at hhd
  have hd1 : ((s.extract (k + 2) s.size).extract 0 (B.sz (many * wd))).data.toList = (s.extract (k + 2) s.size).data.toList.take (B.sz (many * wd)) := take_data _ _
  have hl1 : ((s.extract (k + 2) s.size).data.toList.take (B.sz (many * wd))).length = B.sz (many * wd) := by rw [List.length_take, len_data, hTs]; omega
  have hun := fun W => unpackr_any ((s.extract (k + 2) s.size).extract 0 (B.sz (many * wd))) (many : Int) (wd : Int) W (by rw [← len_data, hd1, hl1]; unfold maxLen; omega)
  rw [hd1, unpR_eq _ many wd hm hwd64 hl1] at hun
  have hdl : (B.dg wd many (B.leN ((s.extract (k + 2) s.size).data.toList.take (B.sz (many * wd))))).length = many := B.dg_length _ _ _
  have hd2 : ((s.extract (k + 2) s.size).extract (B.sz (many * wd)) (s.extract (k + 2) s.size).size).data.toList = (s.extract (k + 2) s.size).data.toList.drop (B.sz (many * wd)) := cut_data _ _
  have hd3 : ((s.extract (k + 2) s.size).extract (B.sz (many * wd)) (s.extract (k + 2) s.size).size).size ≤ maxLen := by simp; unfold maxLen; omega
  rw [hTs] at hd2 hd3
  generalize B.dg wd many (B.leN ((s.extract (k + 2) s.size).data.toList.take (B.sz (many * wd)))) = pk at *
  generalize B.leN ((s.extract (k + 2) s.size).data.toList.take (B.sz (many * wd))) / 2 ^ (many * wd) = top at *
  generalize hU : (s.extract (k + 2) s.size).data.toList.drop (B.sz (many * wd)) = U at *
  clear hU
  by_cases h6 : top ≠ 0
  · rw [if_pos h6] at hhd hun
    have HR := Lib.hid (head_bad _ _ 1 (congrArg (fun x => x.2.2.2.2.2) hhd) (by decide))
    have HUN := Lib.hid hun
    generalize B.sz (many * wd) = z at *
    have hzs : z ≤ s.size - (k + 2) := by omega
    clear hhd hdT hTs hd1 hl1 hd2 hd3 hun hdl
    go_enter Tryz.func178, Tryz.ntmps178
    go_wp2_with fail
    refine (HV.out _).mono ?_
    rintro e1 w1 ⟨rfl, hb⟩
    have hw1 := HW1.out
    have hw2 := HW2.out
    go_wp2_with fail
    go_quiet (fail)
    rw [hw1, hw2]
    clear hw1 hw2
    go_wp2_with fail
    refine (HZ.out _).mono ?_
    rintro e2 w2 ⟨rfl, rfl⟩
    go_wp2_with fail
    refine (HUN.out _).mono ?_
    rintro e3 w3 ⟨a3, c3, rfl, hr3, _, _, hb3⟩
    go_wp2_with fail
    go_ret3
    rw [HR.out]
    exact PPost.none 1 (below_then (below_drewN hb _) hb3)
  rw [if_neg h6] at hhd hun
  have HR := Lib.hid (head_ok _ _ _ _ _ _ _ hhd)
  have HUN := Lib.hid (fun W => show Calls Tryz.prog 118 #[.string ((s.extract (k + 2) s.size).extract 0 (B.sz (many * wd))), .int .i64 many, .int .i64 wd] W (fun e w' => ∃ a c, e = .returned (.tuple #[.slice a many c, .int .i64 0]) ∧ NumRow W.heap.size pk (.slice a many c) w' ∧ Below W.heap.size W w') from
    (hun W).mono fun e w' ⟨a, c, he, hr, _, _, hb⟩ => ⟨a, c, by rw [he]; simp only [hdl]; rfl, by simp only [hdl] at hr; exact hr, hb⟩)
  have HD2 := Lib.hid hd2
  have HD3 := Lib.hid hd3
  generalize B.sz (many * wd) = z at *
  have hzs : z ≤ s.size - (k + 2) := by omega
  have HME := Lib.hid (fun Bs A c (W : World) (hB : Bs ≤ W.heap.size) (t : ByteArray) (ht : t.data.toList = U) (hsz : t.size ≤ maxLen) hrow => show Calls Tryz.prog 197 #[.slice A many c, .string t, .int .i64 ct, .int .i64 wd] W (MendPost (P.mend wd ct pk U 0) Bs A many c W) by
    rw [← ht]; exact mend_any Bs A many c ct wd pk t W hB hsz hwd64 (by omega) hdl hm hrow)
  have hml := P.mend_length wd ct pk U 0
  rw [hdl] at hml
  have HDL := Lib.hid hdl
  have HMEL := Lib.hid hml
  generalize P.mend wd ct pk U 0 = M at *
  clear hhd hdT hTs hd1 hl1 hd2 hd3 hun hml
  go_enter Tryz.func178, Tryz.ntmps178
  go_wp2_with fail
  refine (HV.out _).mono ?_
  rintro e1 w1 ⟨rfl, hb⟩
  have hw1 := HW1.out
  have hw2 := HW2.out
  go_wp2_with fail
  go_quiet (fail)
  rw [hw1, hw2]
  clear hw1 hw2 hdl
  go_wp2_with fail
  refine (HZ.out _).mono ?_
  rintro e2 w2 ⟨rfl, rfl⟩
  go_wp2_with fail
  refine (HUN.out _).mono ?_
  rintro e3 w3 ⟨a3, c3, rfl, hr3, hb3⟩
  have h3 := below_then (below_drewN hb nq) hb3
  have hr3' := hr3
  have HR3 := Lib.hid (show NumRow w.heap.size pk (.slice a3 many c3) w3 from by
    refine ⟨hr3'.1, ?_⟩
    rcases hr3'.2 with hn | ⟨g, cap, cur, e1, e2, e3⟩
    · exact Or.inl hn
    · exact Or.inr ⟨g, cap, cur, e1, by have := hb.size; have : (w1.drewN nq).heap.size = w1.heap.size := by simp
                                        omega, e3⟩)
  clear hr3 hr3'
  go_wp2_with fail
  refine (HME.out w.heap.size a3 c3 w3 h3.size _ HD2.out HD3.out HR3.out).mono ?_
  rintro e4 w4 ⟨rfl, hr4, hb4⟩
  have HR4 := Lib.hid hr4
  clear hr4
  go_wp2_with fail
  go_ret3
  rw [HR.out]
  exact ⟨a3, many, c3, rfl, HMEL.out.symm, HR4.out, h3.trans hb4⟩
end Go.Proofs.YtcachhnhncodoaaGreat
namespace Go.Proofs.YtcachhnhncodoaaGreat
open Go.RowKit
set_option linter.unusedVariables false
theorem grown_setC (W : World) (g k : Nat) (v : Value) : W.grownBy (W.setCell ⟨g, k, none⟩ v) (some g) :=
  ⟨rfl, rfl, rfl, by simp [World.setCell], fun j hj hne => by
    have hne' : ¬ g = j := fun e => hne (by rw [e])
    simp [World.setCell, Array.getElem?_modify, hne']⟩
theorem head_facts (s : List UInt8) (many : Nat) : (P.head s many).1 < 18446744073709551616 ∧ (P.head s many).2.2.1.length ≤ many := by
  unfold P.head
  split
  · simp
  · rename_i h
    obtain ⟨n, k, hr⟩ : ∃ n k, V.rd s = (n, k, 0) := ⟨(V.rd s).1, (V.rd s).2.1, by rw [← Classical.not_not.1 h]⟩
    obtain ⟨_, _, _, k4, _, _⟩ := V.rd_ok _ _ _ hr
    rw [hr]
    simp only
    split
    · simp
    · split
      · simp
      · split
        · simp
        · split
          · simp
          · exact ⟨k4, by simp only [B.dg_length]; exact Nat.le_refl _⟩
theorem pparse_facts (s : List UInt8) (many : Nat) : (pparseR s many).1 < 18446744073709551616 ∧ (pparseR s many).2.1.length ≤ many := by
  obtain ⟨h1, h2⟩ := head_facts s many
  unfold pparseR
  split
  · simp
  · exact ⟨h1, by simp only [P.mend_length]; exact h2⟩
theorem plc_any (p : Nat → Bool) (l : List Nat) : ∀ k, (P.plc p k l).length = 0 ↔ l.any p = false := by
  induction l with
  | nil => intro k; simp [P.plc]
  | cons x t ih =>
    intro k
    simp only [P.plc, List.any_cons]
    by_cases h : p x = true
    · simp [h]
    · have h' : p x = false := by simpa using h
      rw [if_neg h, ih (k + 1), h', Bool.false_or]
theorem add_step (xs : List Nat) (b j : Nat) (hj : j < xs.length) :
    ((xs.take j).map (fun n => n + b) ++ xs.drop j).set j (xs.getD j 0 + b) = (xs.take (j + 1)).map (fun n => n + b) ++ xs.drop (j + 1) := by
  have hl : ((xs.take j).map fun n => n + b).length = j := by simp; omega
  have e : xs.take (j + 1) = xs.take j ++ [xs.getD j 0] := by
    rw [List.take_succ_eq_append_getElem hj]; simp [List.getD, List.getElem?_eq_getElem hj]
  rw [List.set_append_right _ _ (by omega), hl, Nat.sub_self, List.drop_eq_getElem_cons hj, List.set_cons_zero, e, List.map_append, List.append_assoc]
  rfl
theorem add_at (xs : List Nat) (b j : Nat) (hj : j < xs.length) : ((xs.take j).map (fun n => n + b) ++ xs.drop j).getD j 0 = xs.getD j 0 := by
  have hl : ((xs.take j).map fun n => n + b).length = j := by simp; omega
  rw [List.getD_eq_getElem?_getD, List.getElem?_append_right (by omega), hl, Nat.sub_self, List.drop_eq_getElem_cons hj]
  simp [List.getD, List.getElem?_eq_getElem hj]
theorem add_len (xs : List Nat) (b j : Nat) (hj : j ≤ xs.length) : ((xs.take j).map (fun n => n + b) ++ xs.drop j).length = xs.length := by simp; omega
set_option maxHeartbeats 2000000 in
set_option maxRecDepth 100000 in
theorem pread_in (s : ByteArray) (many : Nat) (w : World) (hs : s.size ≤ maxLen) (hm : many ≤ 64) :
    Calls Tryz.prog 150 #[.string s, .int .i64 many] w (AllPost (P.readN s.data.toList many) w) := by
  have hmf : ∀ (fn : Fn) (first cap : Array Value) (w : World), (Instr.makeFunc fn first cap).run Tryz.prog w = .ok (.func fn first cap) w := fun _ _ _ _ => rfl
  have HP := Lib.hid (fun W => pparse_any s many W hs hm)
  obtain ⟨f1, f2⟩ := pparse_facts s.data.toList many
  rw [pread_eq]
  generalize pparseR s.data.toList many = p at *
  obtain ⟨b, xs, er⟩ := p
  simp only at f1 f2 ⊢
  have g1 : decide ((many : Int) < 0) = false := decide_eq_false (by omega)
  have g2 : decide ((64 : Int) < (many : Int)) = false := decide_eq_false (by omega)
  by_cases he : er ≠ 0
  · rw [if_pos he]
    have g3 : ((er : Int) != 0) = true := by rw [bne_iff_ne]; omega
    go_enter Tryz.func150, Tryz.ntmps150
    go_wp2_with fail
    refine (HP.out _).mono ?_
    rintro e1 w1 ⟨A, N, c, rfl, hN, hr, hb⟩
    go_wp2_with fail
    go_ret2
    exact ⟨none, 0, rfl, Nums.nil _ _ _, hb.alloc hb.size _⟩
  obtain rfl : er = 0 := by omega
  rw [if_neg he]
  have hpl := plc_any (over b) xs 0
  have HPR := Lib.hid (fun C W hB A c' h => places_r C b W hB f1 A c' xs (by omega) h)
  have HST := Lib.hid (fun j h => add_step xs b j h)
  have HAT := Lib.hid (fun j h => add_at xs b j h)
  have HLN := Lib.hid (fun j h => add_len xs b j h)
  have HOV := Lib.hid (fun j (hj : j < xs.length) (ha : xs.any (over b) = false) => show xs.getD j 0 + b < 18446744073709551616 by
    have := List.any_eq_false.1 ha _ (getD_mem xs j hj)
    unfold over at this
    rw [decide_eq_true_iff] at this
    omega)
  have hfin : P.fin b (xs, 0) = if xs.any (over b) = true then ([], 8) else (xs.map fun n => n + b, 0) := rfl
  rw [hfin]
  have HDR : xs.drop xs.length = [] := List.drop_length
  have HEND := Lib.hid (show (xs.take xs.length).map (fun n => n + b) ++ xs.drop xs.length = xs.map fun n => n + b by rw [List.take_length, HDR, List.append_nil])
  have H0 := Lib.hid (show (xs.take 0).map (fun n => n + b) ++ xs.drop 0 = xs by simp)
  have HML := Lib.hid (show (xs.map fun n => n + b).length = xs.length by simp)
  clear HDR hfin he
  by_cases ha : xs.any (over b) = true
  · rw [if_pos ha]
    have hpn : (P.plc (over b) 0 xs).length ≠ 0 := fun h => by rw [hpl] at h; rw [h] at ha; simp at ha
    generalize P.plc (over b) 0 xs = ps at *
    have g3 : 0 < ps.length := by omega
    clear hpl ha hpn
    go_enter Tryz.func150, Tryz.ntmps150
    go_wp2_with fail
    refine (HP.out _).mono ?_
    rintro e1 w1 ⟨A, N, c, rfl, hN, hr, hb⟩
    subst hN
    go_wp2_with fail
    have hb2 : Below w1.heap.size w1 (w1.alloc (.cells #[.int .u64 (b : Int)] 34)) := (Below.refl _ _).alloc (Nat.le_refl _) _
    obtain ⟨a', c', hev, hnum⟩ := numRow_nums hr
    obtain ⟨rfl, -, rfl⟩ : A = a' ∧ xs.length = xs.length ∧ c = c' := by injection hev with h1 h2 h3; exact ⟨h1, h2, h3⟩
    refine (HPR.out w1.heap.size _ (heap_alloc_new w1 _) A c (hnum.next hb2)).mono ?_
    rintro e2 w2 ⟨a2, c2, rfl, _, hb3⟩
    have h3 := below_then hb (below_then hb2 hb3)
    clear hev
    have g4 : decide ((0 : Int) < (ps.length : Int)) = true := decide_eq_true (by omega)
    go_wp2_with fail
    go_ret2
    exact ⟨none, 0, rfl, Nums.nil _ _ _, h3⟩
  rw [if_neg ha]
  have ha' : xs.any (over b) = false := by simpa using ha
  have hpn := hpl.2 ha'
  have HPN := Lib.hid hpn
  have HOV2 := Lib.hid (fun j h => HOV.out j h ha')
  generalize P.plc (over b) 0 xs = ps at *
  clear hpl ha ha' HOV hpn
  go_enter Tryz.func150, Tryz.ntmps150
  go_wp2_with fail
  refine (HP.out _).mono ?_
  rintro e1 w1 ⟨A, N, c, rfl, hN, hr, hb⟩
  subst hN
  have hb2 : Below w1.heap.size w1 (w1.alloc (.cells #[.int .u64 (b : Int)] 34)) := (Below.refl _ _).alloc (Nat.le_refl _) _
  obtain ⟨a', c', hev, hnum⟩ := numRow_nums hr
  obtain ⟨rfl, -, rfl⟩ : A = a' ∧ xs.length = xs.length ∧ c = c' := by injection hev with h1 h2 h3; exact ⟨h1, h2, h3⟩
  clear hev
  go_wp2_with fail
  refine (HPR.out w1.heap.size _ (heap_alloc_new w1 _) A c (hnum.next hb2)).mono ?_
  rintro e2 w2 ⟨a2, c2, rfl, _, hb3⟩
  have h23 := below_then hb2 hb3
  have h3 := below_then hb h23
  rw [HPN.out]
  have hr2 := hr.below h23
  have hbox : Boxed w2 w1.heap.size 34 (.int .u64 b) := (hb3.block w1.heap.size (by simp)).trans (heap_alloc_new w1 _)
  have HR1 := Lib.hid hr
  obtain ⟨C, hC⟩ : ∃ C, C = w1.heap.size := ⟨_, rfl⟩
  have HC := Lib.hid hC
  rw [← hC] at hbox ⊢
  have hCw : w.heap.size ≤ C := by have := hb.size; omega
  clear hr hnum hC
  go_wp2_with fail
  go_loopw [10, 33] (fun _ i wr => ∃ j : Nat, j ≤ xs.length ∧ i = .int .i64 j ∧ NumRow w.heap.size ((xs.take j).map (fun n => n + b) ++ xs.drop j) (.slice A xs.length c) wr ∧ Boxed wr C 34 (.int .u64 b) ∧ Below w.heap.size w wr) (fun _ i _ => xs.length - (intOf i).toNat)
  case atStart => exact ⟨0, by omega, rfl, by rw [H0.out]; exact hr2, hbox, h3⟩
  case round =>
    obtain ⟨j, hj, rfl, hnr, hbx, hbw⟩ := hrel
    by_cases hlt : j < xs.length
    · obtain ⟨g, rfl, hcl, hgw, hgs⟩ := HR1.out.form (fun e => by rw [e] at hlt; simp at hlt)
      have hln := HLN.out j hj
      have cj := hnr.cell j (by omega)
      rw [HAT.out j hlt] at cj
      have fj := hnr.free j
      have hov := HOV2.out j hlt
      have HS := Lib.hid (HST.out j hlt)
      have hgC : g ≠ C := by have := HC.out; omega
      have cb := hbx.cell
      generalize xs.getD j 0 = x at *
      generalize (xs.take j).map (fun n => n + b) ++ xs.drop j = acc at *
      have hwr : IntKind.u64.wrap ((x : Int) + (b : Int)) = ((x + b : Nat) : Int) := by rw [IntKind.wrap_u64]; omega
      have hw2 : (x : Int) + (b : Int) = ((x + b : Nat) : Int) := by omega
      generalize x + b = y at *
      have hjI : (j : Int) < (xs.length : Int) := by omega
      have HNR2 := Lib.hid (hnr.drew_.put j y)
      have HBX2 := Lib.hid (show Boxed (wr.drew.setCell ⟨g, j, none⟩ (.int .u64 (y : Int))) C 34 (.int .u64 b) from ((grown_setC wr.drew g j (.int .u64 (y : Int))).block C hbx.lt (fun e => hgC (by injection e with e; exact e.symm))).trans hbx)
      have HBW2 := Lib.hid (hbw.drew.setCell (p := ⟨g, j, none⟩) hgw (.int .u64 (y : Int)))
      clear hnr hcl hln hbx hgC
      go_wp2_with fail
      go_region
      all_goals
        go_wp2_with fail
        exact ⟨⟨j + 1, by omega, by go_num, by rw [← HS.out]; exact HNR2.out, HBX2.out, HBW2.out⟩, by simp [intOf]; omega⟩
    · obtain rfl : j = xs.length := by omega
      rw [HEND.out] at hnr
      obtain ⟨a', c', hev, hnum⟩ := numRow_nums hnr
      obtain ⟨rfl, rfl⟩ : A = a' ∧ c = c' := by injection hev with h1 h2 h3; exact ⟨h1, h3⟩
      have HNM := Lib.hid hnum
      clear hev hnr hnum
      go_wp2_with fail
      go_ret2
      exact ⟨A, c, by rw [HML.out]; rfl, HNM.out, hbw⟩
theorem pread_any (s : ByteArray) (many : Int) (w : World) (hs : s.size ≤ maxLen) :
    Calls Tryz.prog 150 #[.string s, .int .i64 many] w (AllPost (P.read s.data.toList many) w) := by
  unfold P.read
  by_cases h0 : many < 0
  · rw [if_pos h0]
    have g1 : decide (many < 0) = true := decide_eq_true h0
    go_enter Tryz.func150, Tryz.ntmps150
    go_wp2_with fail
    go_ret2
    exact ⟨none, 0, rfl, Nums.nil _ _ _, Below.refl _ _⟩
  rw [if_neg h0]
  obtain ⟨m, rfl⟩ : ∃ m : Nat, many = m := ⟨many.toNat, by omega⟩
  by_cases h1 : 64 < (m : Int)
  · rw [if_pos h1]
    have g1 : decide ((m : Int) < 0) = false := decide_eq_false h0
    have g2 : decide ((64 : Int) < (m : Int)) = true := decide_eq_true h1
    go_enter Tryz.func150, Tryz.ntmps150
    go_wp2_with fail
    go_ret2
    exact ⟨none, 0, rfl, Nums.nil _ _ _, Below.refl _ _⟩
  rw [if_neg h1, Int.toNat_natCast]
  exact pread_in s m w hs (by omega)
end Go.Proofs.YtcachhnhncodoaaGreat
namespace Go.Proofs.YtcachhnhncodoaaGreat
open Go.RowKit
set_option linter.unusedVariables false
theorem rvof_any (s : ByteArray) (w : World) (hs : s.size ≤ maxLen) : Calls Tryz.prog 63 #[.string s] w (ReadPost (V.rd s.data.toList) w) := by
  by_cases h : s.size = 0
  · rw [data_empty s h]; exact vof_empty s w h
  · exact vof_any s w hs (by omega)
theorem AllPost.none_ {w w' : World} (er : Nat) (h : Below w.heap.size w w') : AllPost ([], er) w (.returned (.tuple #[.slice Option.none 0 0, .int .i64 er])) w' :=
  ⟨Option.none, 0, rfl, Nums.nil _ _ _, h⟩
theorem readN_bad (s : List UInt8) (many er : Nat) (h : (P.head s many).2.2.2.2.2 = er) (he : er ≠ 0) : P.readN s many = ([], er) := by
  unfold P.readN; simp only [h, if_pos he]
theorem readN_ok (s : List UInt8) (many b w out : Nat) (p : List Nat) (u : List UInt8) (h : P.head s many = (b, w, p, u, out, 0)) : P.readN s many = P.fin b (P.mend w out p u 0) := by
  unfold P.readN; rw [h]; simp
theorem fin_bad (b : Nat) (m : List Nat) (er : Nat) (he : er ≠ 0) : P.fin b (m, er) = ([], er) := by
  unfold P.fin; rw [if_pos he]
def NoOver (b : Nat) (xs : List Nat) (j : Nat) : Prop := ∀ i, i < j → over b (xs.getD i 0) = false
theorem NoOver.all {b : Nat} {xs : List Nat} (h : NoOver b xs xs.length) : P.fin b (xs, 0) = (xs.map fun n => n + b, 0) := by
  have e : xs.any (over b) = false := by
    rw [List.any_eq_false]
    intro x hx
    obtain ⟨i, hi, he⟩ := List.mem_iff_getElem.1 hx
    have := h i hi
    simp only [List.getD, List.getElem?_eq_getElem hi, Option.getD_some] at this
    rw [← he, this]; simp
  show (if (0 : Nat) ≠ 0 then _ else if xs.any (over b) = true then _ else _) = _
  rw [if_neg (by simp), e, if_neg (by simp)]
theorem over_fin {b : Nat} {xs : List Nat} {i : Nat} (hi : i < xs.length) (h : over b (xs.getD i 0) = true) : P.fin b (xs, 0) = ([], 8) := by
  have e : xs.any (over b) = true := List.any_eq_true.2 ⟨_, getD_mem xs i hi, h⟩
  show (if (0 : Nat) ≠ 0 then _ else if xs.any (over b) = true then _ else _) = _
  rw [if_neg (by simp), e, if_pos rfl]
theorem NoOver.succ {b : Nat} {xs : List Nat} {j : Nat} (h : NoOver b xs j) (hj : over b (xs.getD j 0) = false) : NoOver b xs (j + 1) := by
  intro i hi
  by_cases e : i = j
  · rw [e]; exact hj
  · exact h i (by omega)
set_option maxHeartbeats 4000000 in
set_option maxRecDepth 100000 in
theorem rpof_in (s : ByteArray) (many : Nat) (w : World) (hs : s.size ≤ maxLen) (hm : many ≤ 64) :
    Calls Tryz.prog 94 #[.string s, .int .i64 many] w (AllPost (P.readN s.data.toList many) w) := by
  have gm1 : decide ((many : Int) < 0) = false := decide_eq_false (by omega)
  have gm2 : decide ((64 : Int) < (many : Int)) = false := decide_eq_false (by omega)
  have hmax := hs
  unfold maxLen at hmax
  have hv := fun w => rvof_any s w hs
  have hbad := V.rd_bad s.data.toList
  have hok := fun n k (h : V.rd s.data.toList = (n, k, 0)) => V.rd_ok s.data.toList n k h
  have hhd : P.head s.data.toList many = P.head s.data.toList many := rfl
  conv at hhd => rhs; unfold P.head
  obtain ⟨b, k, er, hr⟩ : ∃ b k er, V.rd s.data.toList = (b, k, er) := ⟨_, _, _, rfl⟩
  rw [hr] at hv hbad hok hhd
  simp only at hbad hhd
  have HV := Lib.hid hv
  clear hv hr
  by_cases he : er ≠ 0
  · rw [if_pos he] at hhd
    have HR := Lib.hid (readN_bad _ _ er (congrArg (fun x => x.2.2.2.2.2) hhd) he)
    have g1 : ((er : Int) != 0) = true := by rw [bne_iff_ne]; omega
    clear hhd hbad hok
    go_enter Tryz.func94, Tryz.ntmps94
    go_wp2_with fail
    refine (HV.out _).mono ?_
    rintro e1 w1 ⟨rfl, hb⟩
    go_wp2_with fail
    go_ret2
    rw [HR.out]
    exact AllPost.none_ er hb
  rw [if_neg he] at hhd
  obtain rfl : er = 0 := by omega
  obtain ⟨k1, k2, hx1, hb64, k9, hx2⟩ := hok b k rfl
  clear hx1 hx2
  rw [len_data] at k2
  clear he hbad hok
  have hkI : (k : Int) ≤ (s.size : Int) := by omega
  obtain ⟨T, hT⟩ : ∃ T, T = s.extract k s.size := ⟨_, rfl⟩
  have hdT : T.data.toList = s.data.toList.drop k := by rw [hT, cut_data]
  have hTs : T.size = s.size - k := by rw [hT]; simp
  rw [← hdT] at hhd
  rw [len_data] at hhd
  have hTm : T.size ≤ 9223372036854775807 := by omega
  by_cases h2 : T.size < 2
  · rw [if_pos h2] at hhd
    have HR := Lib.hid (readN_bad _ _ 5 (congrArg (fun x => x.2.2.2.2.2) hhd) (by decide))
    have g2 : decide (s.size - k < 2) = true := decide_eq_true (by omega)
    have g2' : decide (((s.size - k : Nat) : Int) < 2) = true := decide_eq_true (by omega)
    clear hhd hdT hT
    go_enter Tryz.func94, Tryz.ntmps94
    go_wp2_with fail
    refine (HV.out _).mono ?_
    rintro e1 w1 ⟨rfl, hb⟩
    go_wp2_with fail
    go_ret2
    rw [HR.out]
    exact AllPost.none_ 5 hb
  rw [if_neg h2] at hhd
  have g2 : decide (s.size - k < 2) = false := decide_eq_false (by omega)
  have g2' : decide (((s.size - k : Nat) : Int) < 2) = false := decide_eq_false (by omega)
  have ht0 : 0 < T.size := by omega
  have ht1 : 1 < T.size := by omega
  have ht0I : (0 : Int) < (T.size : Int) := by omega
  have ht1I : (1 : Int) < (T.size : Int) := by omega
  have ht2I : (2 : Int) ≤ (T.size : Int) := by omega
  have e0 : T.data.toList.getD 0 0 = T[0] := by simp [List.getD, ByteArray.getElem_eq_getElem_data, ht0]
  have e1 : T.data.toList.getD 1 0 = T[1] := by simp [List.getD, ByteArray.getElem_eq_getElem_data, ht1]
  rw [e0, e1] at hhd
  have hu1 := T[0].toNat_lt
  have hu2 := T[1].toNat_lt
  obtain ⟨wd, hwd⟩ : ∃ wd, wd = T[0].toNat := ⟨_, rfl⟩
  obtain ⟨ct, hct⟩ : ∃ ct, ct = T[1].toNat := ⟨_, rfl⟩
  rw [← hwd, ← hct] at hhd
  have hwb : wd < 256 := by omega
  have hcb : ct < 256 := by omega
  have HW1 := Lib.hid (show wrap64 (T[0].toNat : Int) = (wd : Int) by unfold wrap64; omega)
  have HW2 := Lib.hid (show wrap64 (T[1].toNat : Int) = (ct : Int) by unfold wrap64; omega)
  have HT := Lib.hid hT
  have HTS := Lib.hid hTs
  clear hwd hct e0 e1 hu1 hu2 h2 hdT hT hTs
  by_cases h64 : 64 < wd
  · rw [if_pos h64] at hhd
    have HR := Lib.hid (readN_bad _ _ 3 (congrArg (fun x => x.2.2.2.2.2) hhd) (by decide))
    have g3 : decide ((64 : Int) < (wd : Int)) = true := decide_eq_true (by omega)
    clear hhd
    go_enter Tryz.func94, Tryz.ntmps94
    go_wp2_with fail
    refine (HV.out _).mono ?_
    rintro e1 w1 ⟨rfl, hb⟩
    go_wp2_with fail
    rw [← HT.out]
    have hw1 := HW1.out
    have hw2 := HW2.out
    go_quiet (fail)
    rw [hw1, hw2]
    clear hw1 hw2
    go_wp2_with fail
    go_ret2
    rw [HR.out]
    exact AllPost.none_ 3 (below_drewN hb _)
  rw [if_neg h64] at hhd
  have g3 : decide ((64 : Int) < (wd : Int)) = false := decide_eq_false (by omega)
  have hwd64 : wd ≤ 64 := by omega
  have hmul := Nat.mul_le_mul hm hwd64
  have hzb : B.sz (many * wd) ≤ 512 := by unfold B.sz; omega
  obtain ⟨U, hU⟩ : ∃ U, U = T.extract 2 T.size := ⟨_, rfl⟩
  have hdU : U.data.toList = T.data.toList.drop 2 := by rw [hU, cut_data]
  have hUs : U.size = T.size - 2 := by rw [hU]; simp
  rw [← hdU] at hhd
  rw [len_data] at hhd
  have hmI : ((many : Int) * (wd : Int)) = ((many * wd : Nat) : Int) := by simp
  obtain ⟨M, hM⟩ : ∃ M, M = many * wd := ⟨_, rfl⟩
  rw [← hM] at hmI hhd hzb hmul
  have hwm : IntKind.i64.wrap ((many : Int) * (wd : Int)) = (M : Int) := by rw [hmI, IntKind.wrap_i64]; omega
  have hq1 : (((M : Int) + 7) / 8) = ((B.sz M : Nat) : Int) := by unfold B.sz; omega
  have hM0 : (0 : Int) ≤ (M : Int) + 7 := by omega
  by_cases h5 : U.size < B.sz M
  · rw [if_pos h5] at hhd
    have HR := Lib.hid (readN_bad _ _ 5 (congrArg (fun x => x.2.2.2.2.2) hhd) (by decide))
    rw [hUs] at h5
    generalize B.sz M = z at *
    have g5 : decide (T.size - 2 < z) = true := decide_eq_true h5
    clear hhd hdU hU hUs hM
    go_enter Tryz.func94, Tryz.ntmps94
    go_wp2_with fail
    refine (HV.out _).mono ?_
    rintro e1 w1 ⟨rfl, hb⟩
    go_wp2_with fail
    rw [← HT.out]
    have hw1 := HW1.out
    have hw2 := HW2.out
    go_quiet (fail)
    rw [hw1, hw2]
    clear hw1 hw2
    go_wp2_with fail
    go_ret2
    rw [HR.out]
    exact AllPost.none_ 5 (below_drewN hb _)
  rw [if_neg h5] at hhd
  have hd1 : (U.extract 0 (B.sz M)).data.toList = U.data.toList.take (B.sz M) := take_data _ _
  have hl1 : (U.data.toList.take (B.sz M)).length = B.sz M := by rw [List.length_take, len_data]; omega
  have hun := fun W => unpackOo_any (U.extract 0 (B.sz M)) (many : Int) (wd : Int) W (by rw [← len_data, hd1, hl1]; unfold maxLen; omega)
  rw [hd1, unpR_eq _ many wd hm hwd64 (by rw [hl1, hM]), ← hM] at hun
  have hdl : (B.dg wd many (B.leN (U.data.toList.take (B.sz M)))).length = many := B.dg_length _ _ _
  have hd2 : (U.extract (B.sz M) U.size).data.toList = U.data.toList.drop (B.sz M) := cut_data _ _
  have hd3 : (U.extract (B.sz M) U.size).size ≤ s.size := by have := HTS.out; simp; omega
  generalize B.dg wd many (B.leN (U.data.toList.take (B.sz M))) = pk at *
  generalize B.leN (U.data.toList.take (B.sz M)) / 2 ^ M = top at *
  have g5 : decide (T.size - 2 < B.sz M) = false := decide_eq_false (by omega)
  have hzU : B.sz M ≤ U.size := by omega
  have hzT : B.sz M ≤ T.size - 2 := by omega
  generalize B.sz M = z at *
  by_cases h6 : top ≠ 0
  · rw [if_pos h6] at hhd hun
    have HR := Lib.hid (readN_bad _ _ 1 (congrArg (fun x => x.2.2.2.2.2) hhd) (by decide))
    rw [hU] at hun
    have HUN := Lib.hid hun
    clear hhd hdU hd1 hl1 hd2 hd3 hun hdl hU hUs hzU hM h5
    go_enter Tryz.func94, Tryz.ntmps94
    go_wp2_with fail
    refine (HV.out _).mono ?_
    rintro e1 w1 ⟨rfl, hb⟩
    go_wp2_with fail
    rw [← HT.out]
    have hw1 := HW1.out
    have hw2 := HW2.out
    go_quiet (fail)
    rw [hw1, hw2]
    clear hw1 hw2
    go_wp2_with fail
    refine (HUN.out _).mono ?_
    rintro e3 w3 ⟨a3, c3, rfl, hr3, hb3⟩
    go_wp2_with fail
    go_ret2
    rw [HR.out]
    exact AllPost.none_ 1 (below_then (below_drewN hb _) hb3)
  rw [if_neg h6] at hhd hun
  have hrn := readN_ok _ _ _ _ _ _ _ hhd
  rw [← hd2] at hrn
  rw [hUs] at hrn hd3
  have HRN := Lib.hid hrn
  have HDL := Lib.hid hdl
  have HUN := Lib.hid (fun W => show Calls Tryz.prog 64 #[.string ((T.extract 2 T.size).extract 0 z), .int .i64 many, .int .i64 wd] W (fun e w' => ∃ a c, e = .returned (.tuple #[.slice a many c, .int .i64 0]) ∧ NumRow W.heap.size pk (.slice a many c) w' ∧ Below W.heap.size W w') from
    hU ▸ (hun W).mono fun e w' ⟨a, c, he, hr, hb⟩ => ⟨a, c, by rw [he]; simp only [hdl]; rfl, by simp only [hdl] at hr; exact hr, hb⟩)
  rw [hU] at HRN hd3
  generalize hR : P.readN s.data.toList many = R at *
  have HD3 := Lib.hid hd3
  clear hhd hdU hd1 hl1 hd2 hd3 hun hrn hdl hU hUs hzU hM h5 hR
  go_enter Tryz.func94, Tryz.ntmps94
  go_wp2_with fail
  refine (HV.out _).mono ?_
  rintro e1 w1 ⟨rfl, hb⟩
  go_wp2_with fail
  rw [← HT.out]
  have hw1 := HW1.out
  have hw2 := HW2.out
  go_quiet (fail)
  rw [hw1, hw2]
  clear hw1 hw2
  go_wp2_with fail
  refine (HUN.out _).mono ?_
  rintro e3 w3 ⟨a3, c3, rfl, hr3, hb3⟩
  have h3 := below_then (below_drewN hb nq) hb3
  have HR3 := Lib.hid (show NumRow w.heap.size pk (.slice a3 many c3) w3 from by
    refine ⟨hr3.1, ?_⟩
    rcases hr3.2 with hn | ⟨g, cap, cur, e1, e2, e3⟩
    · exact Or.inl hn
    · exact Or.inr ⟨g, cap, cur, e1, by have := hb.size; have : (w1.drewN nq).heap.size = w1.heap.size := by simp
                                        omega, e3⟩)
  clear hr3
  go_wp2_with fail
  go_loopw [0, 13, 14] (fun sv bf i wr => ∃ (j nx : Nat) (t : ByteArray) (lb : Int) (xs : List Nat), j ≤ ct ∧ i = .int .i64 j ∧ sv = .string t ∧ bf = .int .i64 lb ∧ Hid (lb = (nx : Int) - 1) ∧ Hid (P.fin b (P.mend wd (ct - j) xs t.data.toList nx) = R) ∧ t.size ≤ s.size ∧ Hid (xs.length = many) ∧ -1 ≤ lb ∧ lb ≤ 255 ∧ NumRow w.heap.size xs (.slice a3 many c3) wr ∧ Below w.heap.size w wr) (fun _ _ i _ => ct - (intOf i).toNat)
  case atStart => exact ⟨0, 0, _, -1, pk, by omega, rfl, rfl, rfl, Lib.hid rfl, Lib.hid HRN.out.symm, HD3.out, HDL, by omega, by omega, HR3.out, h3⟩
  case round =>
    obtain ⟨j, nx, t, lb, xs, hj, rfl, rfl, rfl, HBN, HM, hts, HXL, hb1, hb2, hnr, hbw⟩ := hrel
    have hBw := hbw.size
    by_cases hlt : j < ct
    · have hjI : (j : Int) < (ct : Int) := by omega
      obtain ⟨q, hq⟩ : ∃ q, ct - j = q + 1 := ⟨ct - j - 1, by omega⟩
      have hM := HM.out
      rw [hq] at hM
      have HQ := Lib.hid hq
      clear hq HM
      by_cases h0 : t.size = 0
      · have he : ((t.size : Int) == 0) = true := by rw [beq_iff_eq]; omega
        rw [data_empty t h0, mend_nil, fin_bad _ _ _ (by decide)] at hM
        have HM := Lib.hid hM
        clear hM h0
        go_wp2_with fail
        go_ret2
        rw [← HM.out]
        exact AllPost.none_ 5 hbw
      · have he : ((t.size : Int) == 0) = false := by rw [beq_eq_false_iff_ne]; omega
        have hp : 0 < t.size := by omega
        have hpI : (0 : Int) < (t.size : Int) := by omega
        obtain ⟨tl, hd⟩ := head_cons t hp
        have hdt : (t.extract 1 t.size).data.toList = tl := by rw [cut_data, hd]; rfl
        rw [hd] at hM
        unfold P.mend at hM
        have hu8 := t[0].toNat_lt
        obtain ⟨cc, hcc⟩ : ∃ cc, cc = t[0].toNat := ⟨_, rfl⟩
        have hc256 : cc < 256 := by omega
        have HW := Lib.hid (show wrap64 (t[0].toNat : Int) = (cc : Int) by unfold wrap64; omega)
        rw [← hcc] at hM
        have hsl1 : (1 : Int) ≤ (t.size : Int) := by omega
        have HDT := Lib.hid hdt
        clear hcc hd hdt hu8
        by_cases h1 : xs.length ≤ cc
        · rw [if_pos h1, fin_bad _ _ _ (by decide)] at hM
          have HM := Lib.hid hM
          rw [HXL.out] at h1
          have g1 : decide (many ≤ cc) = true := decide_eq_true h1
          clear hM
          have hw64 := HW.out
          go_wp2_with fail
          go_ret2
          rw [← HM.out]
          exact AllPost.none_ 3 hbw
        rw [if_neg h1] at hM
        have hcN : cc < many := by have := HXL.out; omega
        have g1 : decide (many ≤ cc) = false := decide_eq_false (by omega)
        have hcNI : (cc : Int) < (many : Int) := by omega
        have hcx : cc < xs.length := by omega
        clear h1
        by_cases h2 : cc < nx
        · rw [if_pos h2, fin_bad _ _ _ (by decide)] at hM
          have HM := Lib.hid hM
          have g2 : decide ((cc : Int) ≤ lb) = true := decide_eq_true (by have := HBN.out; omega)
          clear hM
          have hw64 := HW.out
          go_wp2_with fail
          go_ret2
          rw [← HM.out]
          exact AllPost.none_ 4 hbw
        rw [if_neg h2] at hM
        have hbc : lb < (cc : Int) := by have := HBN.out; omega
        have g2 : decide ((cc : Int) ≤ lb) = false := decide_eq_false (by omega)
        obtain ⟨g, rfl, hclr, hgB, hgw⟩ := hnr.form (fun e => by rw [e] at hcx; simp at hcx)
        have ck := hnr.cell cc hcx
        have fk := hnr.free cc
        clear h2 hclr
        by_cases h3 : xs.getD cc 0 ≠ 0
        · rw [if_pos h3, fin_bad _ _ _ (by decide)] at hM
          have HM := Lib.hid hM
          generalize xs.getD cc 0 = x at *
          have g3 : ((x : Int) != 0) = true := by rw [bne_iff_ne]; omega
          clear hM
          have hw64 := HW.out
          go_wp2_with fail
          go_ret2
          rw [← HM.out]
          exact AllPost.none_ 1 hbw
        rw [if_neg h3] at hM
        generalize xs.getD cc 0 = x at *
        have g3 : ((x : Int) != 0) = false := by rw [bne_eq_false_iff_eq]; omega
        clear h3
        have hrd := fun W => rvof_any (t.extract 1 t.size) W (by simp; unfold maxLen; omega)
        rw [HDT.out] at hrd
        have hbad := V.rd_bad tl
        have hok := fun n k (h : V.rd tl = (n, k, 0)) => V.rd_ok tl n k h
        generalize V.rd tl = r at *
        obtain ⟨n, kk, er⟩ := r
        simp only at hM hbad
        have HRD := Lib.hid hrd
        clear hrd
        by_cases h4 : er ≠ 0
        · rw [if_pos h4, fin_bad _ _ _ h4] at hM
          have HM := Lib.hid hM
          have g4 : ((er : Int) != 0) = true := by rw [bne_iff_ne]; omega
          clear hM hbad hok
          have hw64 := HW.out
          go_wp2_with fail
          refine (HRD.out _).mono ?_
          rintro e w2 ⟨rfl, hbb⟩
          go_wp2_with fail
          go_ret2
          rw [← HM.out]
          exact AllPost.none_ er (below_then hbw hbb)
        rw [if_neg h4] at hM
        obtain rfl : er = 0 := by omega
        obtain ⟨kk1, kk2, hz1, kkn, kk9, hz2⟩ := hok n kk rfl
        clear h4 hbad hok hz1 hz2
        by_cases h5 : B.bl n ≤ wd
        · rw [if_pos h5, fin_bad _ _ _ (by decide)] at hM
          have HM := Lib.hid hM
          have hpf := fun W => fits_any n wd W kkn hwd64
          rw [decide_eq_true h5] at hpf
          have HPF := Lib.hid hpf
          clear hM h5 hpf
          have hw64 := HW.out
          go_wp2_with fail
          refine (HRD.out _).mono ?_
          rintro e w2 ⟨rfl, hbb⟩
          go_wp2_with fail
          refine (HPF.out _).mono ?_
          rintro e w4 ⟨rfl, rfl⟩
          go_wp2_with fail
          go_ret2
          rw [← HM.out]
          exact AllPost.none_ 1 (below_then hbw hbb)
        rw [if_neg h5] at hM
        have HM := Lib.hid hM
        have hpf := fun W => fits_any n wd W kkn hwd64
        rw [decide_eq_false h5] at hpf
        have HPF := Lib.hid hpf
        have htk : tl.length + 1 = t.size := by have h := HDT.out; have := congrArg List.length h; rw [len_data] at this; simp at this; omega
        have hks : 1 + kk ≤ t.size := by omega
        have hksI : (1 : Int) + (kk : Int) ≤ (t.size : Int) := by omega
        have hkkI : IntKind.i64.wrap ((1 : Int) + (kk : Int)) = ((1 + kk : Nat) : Int) := by rw [IntKind.wrap_i64]; omega
        have hdk : (t.extract (1 + kk) t.size).data.toList = tl.drop kk := by
          rw [cut_data, ← List.drop_drop, ← HDT.out, cut_data]
        have HDK := Lib.hid hdk
        have hNR := Lib.hid hnr
        clear hM h5 hdk hnr htk hpf
        have hw64 := HW.out
        go_wp2_with fail
        refine (HRD.out _).mono ?_
        rintro e w2 ⟨rfl, hbb⟩
        go_wp2_with fail
        refine (HPF.out _).mono ?_
        rintro e w4 ⟨rfl, rfl⟩
        have hc2 : w2.cell? ⟨g, cc, none⟩ = some (.int .u64 (x : Int)) := (hbb.cell (p := ⟨g, cc, none⟩) hgw).trans ck
        have hf2 : w2.frozen? ⟨g, cc, none⟩ = false := (hbb.frozen (p := ⟨g, cc, none⟩) hgw).trans fk
        clear hw64
        have HN2 := Lib.hid ((hNR.out.below hbb).put cc n)
        have HB2 := Lib.hid ((below_then hbw hbb).setCell (p := ⟨g, cc, none⟩) hgB (.int .u64 (n : Int)))
        have HXL2 := Lib.hid (show (xs.set cc n).length = many by rw [List.length_set]; exact HXL.out)
        have HM2 := Lib.hid (show P.fin b (P.mend wd (ct - (j + 1)) (xs.set cc n) (t.extract (1 + kk) t.size).data.toList (cc + 1)) = R by rw [HDK.out, show ct - (j + 1) = q by have := HQ.out; omega]; exact HM.out)
        have hsz2 : (t.extract (1 + kk) t.size).size ≤ s.size := by simp; omega
        go_wp2_with fail
        exact ⟨⟨j + 1, cc + 1, _, (cc : Int), xs.set cc n, by omega, by go_num, rfl, rfl, Lib.hid (by omega), HM2, hsz2, HXL2, by omega, by omega, HN2.out, HB2.out⟩, by simp [intOf]; omega⟩
    · obtain rfl : j = ct := by omega
      have hM := HM.out
      rw [Nat.sub_self] at hM
      by_cases h0 : t.size = 0
      · have he : decide ((0 : Int) < (t.size : Int)) = false := decide_eq_false (by omega)
        have heN : ¬ 0 < t.size := by omega
        rw [data_empty t h0, mend_end0] at hM
        have HM := Lib.hid hM
        have HST := Lib.hid (fun j h => add_step xs b j h)
        have HAT := Lib.hid (fun j h => add_at xs b j h)
        have HLN := Lib.hid (fun j h => add_len xs b j h)
        have HNA := Lib.hid (fun (h : NoOver b xs xs.length) => h.all)
        have HOF := Lib.hid (fun i (hi : i < xs.length) (h : over b (xs.getD i 0) = true) => over_fin hi h)
        have H0 := Lib.hid (show (xs.take 0).map (fun n => n + b) ++ xs.drop 0 = xs by simp)
        have HEND := Lib.hid (show (xs.take xs.length).map (fun n => n + b) ++ xs.drop xs.length = xs.map fun n => n + b by simp)
        have HML := Lib.hid (show (xs.map fun n => n + b).length = xs.length by simp)
        have HMB := Lib.hid (show 18446744073709551615 - (18446744073709551615 - b) = b by omega)
        have hsub : IntKind.u64.wrap ((18446744073709551615 : Int) - (b : Int)) = ((18446744073709551615 - b : Nat) : Int) := by rw [IntKind.wrap_u64]; omega
        have hsub2 : (18446744073709551615 : Int) - (b : Int) = ((18446744073709551615 - b : Nat) : Int) := by omega
        have HOV := Lib.hid (fun n => show over b n = decide (18446744073709551615 - b < n) from rfl)
        obtain ⟨mb, hmb⟩ : ∃ mb, mb = 18446744073709551615 - b := ⟨_, rfl⟩
        rw [← hmb] at hsub hsub2 HOV
        have HMB2 := Lib.hid (show mb + b = 18446744073709551615 by omega)
        clear hM h0 hmb HMB hb1 hb2 hts
        have hxl := HXL.out
        have hnr2 := hnr
        rw [← H0.out] at hnr2
        obtain ⟨wq, hwq⟩ : ∃ wq, wq = wr := ⟨_, rfl⟩
        clear hxl hwq wq
        go_wp2_with fail
        go_loopw [19] (fun i wr2 => ∃ p : Nat, p ≤ many ∧ i = .int .i64 p ∧ Hid (NoOver b xs p) ∧ NumRow w.heap.size ((xs.take p).map (fun n => n + b) ++ xs.drop p) (.slice a3 many c3) wr2 ∧ Below w.heap.size w wr2) (fun i _ => many - (intOf i).toNat)
        case atStart => exact ⟨0, by omega, rfl, Lib.hid (fun i hi => absurd hi (by omega)), hnr2, hbw⟩
        case round =>
          obtain ⟨p, hp, rfl, HNO, hnrp, hbwp⟩ := hrel
          by_cases hpl : p < many
          · have hpx : p < xs.length := by rw [HXL.out]; exact hpl
            have hln := HLN.out p (by omega)
            obtain ⟨g, rfl, hclr, hgB, hgw⟩ := hnrp.form (fun e => by rw [e] at hln; simp at hln; omega)
            have cp := hnrp.cell p (by omega)
            rw [HAT.out p hpx] at cp
            have fp := hnrp.free p
            have HS := Lib.hid (HST.out p hpx)
            have HSU := Lib.hid (fun h => HNO.out.succ h)
            have HOP := Lib.hid (HOF.out p hpx)
            generalize xs.getD p 0 = x at *
            generalize (xs.take p).map (fun n => n + b) ++ xs.drop p = acc at *
            have hpI : (p : Int) < (many : Int) := by omega
            rw [HOV.out x] at HSU HOP
            clear hclr
            by_cases hov : mb < x
            · have g6 : decide (mb < x) = true := decide_eq_true hov
              have hfin := HOP.out (by rw [g6])
              rw [HM.out] at hfin
              have HF := Lib.hid hfin
              clear hfin hov hln
              go_wp2_with fail
              go_ret2
              rw [HF.out]
              exact AllPost.none_ 8 hbwp
            · have g6 : decide (mb < x) = false := decide_eq_false hov
              have HN2 := Lib.hid (HSU.out (by rw [g6]))
              have hxy : x + b < 18446744073709551616 := by have := HMB2.out; omega
              have hwr : IntKind.u64.wrap ((x : Int) + (b : Int)) = ((x + b : Nat) : Int) := by rw [IntKind.wrap_u64]; omega
              have hw2 : (x : Int) + (b : Int) = ((x + b : Nat) : Int) := by omega
              generalize x + b = y at *
              have HNR2 := Lib.hid (hnrp.put p y)
              have HBW2 := Lib.hid (hbwp.setCell (p := ⟨g, p, none⟩) hgB (.int .u64 (y : Int)))
              clear hov hln hnrp
              go_wp2_with fail
              exact ⟨⟨p + 1, by omega, by go_num, HN2, by rw [← HS.out]; exact HNR2.out, HBW2.out⟩, by simp [intOf]; omega⟩
          · obtain rfl : p = many := by omega
            have hno := HNO.out
            rw [← HXL.out] at hno hnrp
            rw [HEND.out] at hnrp
            have hres := HNA.out hno
            rw [HM.out] at hres
            have HRS := Lib.hid hres
            obtain ⟨a', c', hev, hnum⟩ := numRow_nums hnrp
            obtain ⟨rfl, rfl⟩ : a3 = a' ∧ c3 = c' := by injection hev with h1 h2 h3; exact ⟨h1, h3⟩
            have HNM := Lib.hid hnum
            have HML2 := Lib.hid (show (xs.map fun n => n + b).length = p by rw [HML.out, HXL.out])
            clear hev hnrp hnum hres hno
            go_wp2_with fail
            go_ret2
            rw [HRS.out]
            exact ⟨a3, c3, by rw [HML2.out]; rfl, HNM.out, hbwp⟩
      · have he : decide ((0 : Int) < (t.size : Int)) = true := decide_eq_true (by omega)
        have heN : 0 < t.size := by omega
        rw [mend_end1 _ _ _ _ (data_ne t h0), fin_bad _ _ _ (by decide)] at hM
        have HM := Lib.hid hM
        clear hM h0
        go_wp2_with fail
        go_ret2
        rw [← HM.out]
        exact AllPost.none_ 1 hbw
theorem rpof_any (s : ByteArray) (many : Int) (w : World) (hs : s.size ≤ maxLen) :
    Calls Tryz.prog 94 #[.string s, .int .i64 many] w (AllPost (P.read s.data.toList many) w) := by
  unfold P.read
  by_cases h0 : many < 0
  · rw [if_pos h0]
    have g1 : decide (many < 0) = true := decide_eq_true h0
    go_enter Tryz.func94, Tryz.ntmps94
    go_wp2_with fail
    go_ret2
    exact AllPost.none_ 3 (Below.refl _ _)
  rw [if_neg h0]
  obtain ⟨m, rfl⟩ : ∃ m : Nat, many = m := ⟨many.toNat, by omega⟩
  by_cases h1 : 64 < (m : Int)
  · rw [if_pos h1]
    have g1 : decide ((m : Int) < 0) = false := decide_eq_false h0
    have g2 : decide ((64 : Int) < (m : Int)) = true := decide_eq_true h1
    go_enter Tryz.func94, Tryz.ntmps94
    go_wp2_with fail
    go_ret2
    exact AllPost.none_ 2 (Below.refl _ _)
  rw [if_neg h1, Int.toNat_natCast]
  exact rpof_in s m w hs (by omega)
end Go.Proofs.YtcachhnhncodoaaGreat
namespace Go.Proofs.YtcachhnhncodoaaGreat
open Go.RowKit
set_option linter.unusedVariables false
theorem first_lt (s : List UInt8) (left w : Nat) : ∀ x ∈ (H.first s left w).2.1.nums, x < 2 ^ w := by
  unfold H.first
  split
  · simp [H.Part.nums]
  unfold H.firstL
  split
  · simp [H.Part.nums]
  split
  · simp [H.Part.nums]
  unfold H.body
  split
  · simp [H.Part.nums]
  split
  · intro x hx
    simp only [H.Part.nums, List.mem_replicate] at hx
    rw [hx.2]
    simp only [B.dg, List.headD_cons]
    exact Nat.mod_lt _ (B.pos2 w)
  split
  · simp [H.Part.nums]
  · intro x hx
    exact B.dg_lt _ _ _ x (List.mem_of_mem_take hx)
theorem readF_lt (w : Nat) : ∀ (f : Nat) (s : List UInt8) (left : Nat), ∀ x ∈ (H.readF f s left w).1, x < 2 ^ w
  | 0, s, left => by simp [H.readF]
  | f + 1, s, left => by
    unfold H.readF
    split
    · simp
    split
    · simp
    unfold H.pre
    split
    · simp
    · intro x hx
      rcases List.mem_append.1 hx with h | h
      · exact first_lt _ _ _ x h
      · exact readF_lt w f _ _ x h
theorem hreadR_facts {s : List UInt8} {m wd : Nat} {u : List Nat} {e : Nat} (h : hreadR s m wd = (u, e)) : (e ≠ 0 → u = []) ∧ (e = 0 → u.length = m ∧ wd ≤ 64 ∧ ∀ x ∈ u, x < 18446744073709551616) := by
  unfold hreadR at h
  by_cases h1 : (wd : Int) < 0 ∨ 64 < (wd : Int) ∨ (m : Int) < 0
  · rw [if_pos h1] at h
    obtain ⟨rfl, rfl⟩ := (Prod.mk.injEq _ _ _ _).mp h
    exact ⟨fun _ => rfl, fun h => absurd h (by decide)⟩
  rw [if_neg h1] at h
  by_cases h2 : 64 < (m : Int)
  · rw [if_pos h2] at h
    obtain ⟨rfl, rfl⟩ := (Prod.mk.injEq _ _ _ _).mp h
    exact ⟨fun _ => rfl, fun h => absurd h (by decide)⟩
  rw [if_neg h2, Int.toNat_natCast, Int.toNat_natCast] at h
  refine ⟨fun he => ?_, fun he => ?_⟩
  · have := H.read_err s m wd (by rw [h]; exact he)
    rw [h] at this; exact this
  · subst he
    have h3 := H.read_length s m wd (by rw [h])
    rw [h] at h3
    refine ⟨h3, by omega, fun x hx => ?_⟩
    have h4 := readF_lt wd (m + 1) s m x (by unfold H.read at h; rw [h]; exact hx)
    have h5 : 2 ^ wd ≤ 2 ^ 64 := Nat.pow_le_pow_right (by omega) (by omega)
    exact Nat.lt_of_lt_of_le h4 h5
theorem unpR_facts2 {s : List UInt8} {m wd : Nat} {u : List Nat} {e : Nat} (h : unpR s m wd = (u, e)) : (e ≠ 0 → u = []) ∧ (e = 0 → u.length = m ∧ wd ≤ 64 ∧ ∀ x ∈ u, x < 18446744073709551616) := by
  by_cases hw : wd ≤ 64
  · have := unpR_facts h hw
    exact ⟨this.1, fun he => ⟨(this.2 he).1, hw, (this.2 he).2⟩⟩
  · unfold unpR chkR at h
    rw [if_pos (show (wd : Int) < 0 ∨ 64 < (wd : Int) ∨ (m : Int) < 0 by omega), if_neg (by decide)] at h
    obtain ⟨rfl, rfl⟩ := (Prod.mk.injEq _ _ _ _).mp h
    exact ⟨fun _ => rfl, fun h => absurd h (by decide)⟩
def wchk (wd : Nat) (q : List Nat × Nat) : List Nat × Nat := if q.2 ≠ 0 then ([], q.2) else if B.wd q.1 ≠ wd then ([], 1) else (q.1, 0)
def nl2 (n : Nat) (many : Int) : List UInt8 → List Nat × Nat
  | [] => ([], 5)
  | d :: u => wchk d.toNat (if n = 2 then hreadR u many d.toNat else unpR u many d.toNat)
def nlR (s : List UInt8) (many : Int) : List Nat × Nat :=
  if many < 0 then ([], 3) else if 64 < many then ([], 2)
  else match s with
    | [] => ([], 5)
    | c :: t => if c.toNat < 1 ∨ 4 < c.toNat then ([], 7) else if c.toNat = 3 then dreadR t many else if c.toNat = 4 then P.read t many else nl2 c.toNat many t
set_option maxHeartbeats 4000000 in
set_option maxRecDepth 100000 in
theorem nlof_one (S T : ByteArray) (wd : Nat) (u : List UInt8) (m : Nat) (w : World) (hz : 0 < S.size) (hz1 : 1 ≤ S.size) (hz1I : (1 : Int) ≤ (S.size : Int)) (g3 : ((S.size : Int) == 0) = false) (hc : S[0].toNat = 1)
    (hX : S.extract 1 S.size = T) (hzT : 0 < T.size) (hz1T : 1 ≤ T.size) (hz1TI : (1 : Int) ≤ (T.size : Int)) (g9 : ((T.size : Int) == 0) = false) (hd : T[0].toNat = wd) (hwd : IntKind.i64.wrap (wd : Int) = (wd : Int))
    (hXU : T.extract 1 T.size = str u) (hul : u.length ≤ maxLen) (h0 : ¬ (m : Int) < 0) (h1 : ¬ 64 < (m : Int)) :
    Calls Tryz.prog 65 #[.string S, .int .i64 (m : Int)] w (AllPost (wchk wd (unpR u m wd)) w) := by
  have g1 : decide ((m : Int) < 0) = false := decide_eq_false h0
  have g2 : decide (64 < (m : Int)) = false := decide_eq_false h1
  have HUP := Lib.hid (fun W => unpackOo_any (str u) m wd W (by rw [str_size]; exact hul))
  have HHY := Lib.hid (fun W => hof_any (str u) m wd W (by rw [str_size]; exact hul))
  rw [str_data, ← hXU] at HUP HHY
  obtain ⟨R, hR⟩ : ∃ R, R = wchk wd (unpR u m wd) := ⟨_, rfl⟩
  rw [← hR]
  obtain ⟨xs, ex, hx⟩ : ∃ xs ex, unpR u m wd = (xs, ex) := ⟨_, _, rfl⟩
  obtain ⟨ys, ey, hy⟩ : ∃ ys ey, hreadR u m wd = (ys, ey) := ⟨_, _, rfl⟩
  have hf := unpR_facts2 hx
  rw [hx] at HUP
  rw [hy] at HHY
  rw [hx] at hR
  have HG := Lib.hid hR
  unfold AllPostO at HUP
  unfold AllPost at HHY
  have hm64 : m ≤ 64 := by omega
  clear hx hy hXU hR h0 h1 hul
  by_cases hey : ex = 0
  · subst hey
    obtain ⟨hyl, hw64, hyb⟩ := hf.2 rfl
    have HWD := Lib.hid (fun a c W (h : Nums W W.heap.size a xs) => rwidth_any a c xs W _ (by rw [hyl]; unfold maxLen; omega) hyb h)
    have hE2 : wchk wd (xs, 0) = if B.wd xs ≠ wd then ([], 1) else (xs, 0) := by unfold wchk; rw [if_neg (by simp)]
    generalize B.wd xs = v at *
    by_cases hv : v = wd
    · rw [if_neg (by omega)] at hE2
      have HR := Lib.hid (HG.out.trans hE2)
      have g11 : ((v : Int) != (wd : Int)) = false := by rw [bne_eq_false_iff_eq]; omega
      clear hE2 HG hf hv hyl hw64 hyb
      go_enter Tryz.func65, Tryz.ntmps65
      go_wp2_with fail
      refine (HUP.out _).mono ?_
      rintro e w1 ⟨a1, c1, rfl, hn1, hb1⟩
      go_wp2_with fail
      have hnn := row_nums hn1
      refine (HWD.out _ _ _ hnn).mono ?_
      rintro e w3 ⟨rfl, rfl⟩
      go_wp2_with fail
      go_ret2
      rw [HR.out]; exact ⟨a1, c1, rfl, hnn, hb1⟩
    · rw [if_pos (by omega)] at hE2
      have HR := Lib.hid (HG.out.trans hE2)
      have g11 : ((v : Int) != (wd : Int)) = true := by rw [bne_iff_ne]; omega
      clear hE2 HG hf hv hyl hw64 hyb
      go_enter Tryz.func65, Tryz.ntmps65
      go_wp2_with fail
      refine (HUP.out _).mono ?_
      rintro e w1 ⟨a1, c1, rfl, hn1, hb1⟩
      go_wp2_with fail
      have hnn := row_nums hn1
      refine (HWD.out _ _ _ hnn).mono ?_
      rintro e w3 ⟨rfl, rfl⟩
      go_wp2_with fail
      go_ret2
      rw [HR.out]; exact AllPost.none_ 1 (hb1)
  · have HR := Lib.hid (show R = ([], ex) by rw [HG.out]; unfold wchk; rw [if_pos hey])
    have g11 : ((ex : Int) != 0) = true := by rw [bne_iff_ne]; omega
    clear HG hf
    go_enter Tryz.func65, Tryz.ntmps65
    go_wp2_with fail
    refine (HUP.out _).mono ?_
    rintro e w1 ⟨a1, c1, rfl, hn1, hb1⟩
    go_wp2_with fail
    have hnn := row_nums hn1
    go_ret2
    rw [HR.out]; exact AllPost.none_ ex (hb1)
set_option maxHeartbeats 4000000 in
set_option maxRecDepth 100000 in
theorem nlof_two (S T : ByteArray) (wd : Nat) (u : List UInt8) (m : Nat) (w : World) (hz : 0 < S.size) (hz1 : 1 ≤ S.size) (hz1I : (1 : Int) ≤ (S.size : Int)) (g3 : ((S.size : Int) == 0) = false) (hc : S[0].toNat = 2)
    (hX : S.extract 1 S.size = T) (hzT : 0 < T.size) (hz1T : 1 ≤ T.size) (hz1TI : (1 : Int) ≤ (T.size : Int)) (g9 : ((T.size : Int) == 0) = false) (hd : T[0].toNat = wd) (hwd : IntKind.i64.wrap (wd : Int) = (wd : Int))
    (hXU : T.extract 1 T.size = str u) (hul : u.length ≤ maxLen) (h0 : ¬ (m : Int) < 0) (h1 : ¬ 64 < (m : Int)) :
    Calls Tryz.prog 65 #[.string S, .int .i64 (m : Int)] w (AllPost (wchk wd (hreadR u m wd)) w) := by
  have g1 : decide ((m : Int) < 0) = false := decide_eq_false h0
  have g2 : decide (64 < (m : Int)) = false := decide_eq_false h1
  have HUP := Lib.hid (fun W => unpackOo_any (str u) m wd W (by rw [str_size]; exact hul))
  have HHY := Lib.hid (fun W => hof_any (str u) m wd W (by rw [str_size]; exact hul))
  rw [str_data, ← hXU] at HUP HHY
  obtain ⟨R, hR⟩ : ∃ R, R = wchk wd (hreadR u m wd) := ⟨_, rfl⟩
  rw [← hR]
  obtain ⟨xs, ex, hx⟩ : ∃ xs ex, unpR u m wd = (xs, ex) := ⟨_, _, rfl⟩
  obtain ⟨ys, ey, hy⟩ : ∃ ys ey, hreadR u m wd = (ys, ey) := ⟨_, _, rfl⟩
  have hf := hreadR_facts hy
  rw [hx] at HUP
  rw [hy] at HHY
  rw [hy] at hR
  have HG := Lib.hid hR
  unfold AllPostO at HUP
  unfold AllPost at HHY
  have hm64 : m ≤ 64 := by omega
  clear hx hy hXU hR h0 h1 hul
  by_cases hey : ey = 0
  · subst hey
    obtain ⟨hyl, hw64, hyb⟩ := hf.2 rfl
    have HWD := Lib.hid (fun a c W (h : Nums W W.heap.size a ys) => rwidth_any a c ys W _ (by rw [hyl]; unfold maxLen; omega) hyb h)
    have hE2 : wchk wd (ys, 0) = if B.wd ys ≠ wd then ([], 1) else (ys, 0) := by unfold wchk; rw [if_neg (by simp)]
    generalize B.wd ys = v at *
    by_cases hv : v = wd
    · rw [if_neg (by omega)] at hE2
      have HR := Lib.hid (HG.out.trans hE2)
      have g11 : ((v : Int) != (wd : Int)) = false := by rw [bne_eq_false_iff_eq]; omega
      clear hE2 HG hf hv hyl hw64 hyb
      go_enter Tryz.func65, Tryz.ntmps65
      go_wp2_with fail
      refine (HUP.out _).mono ?_
      rintro e w1 ⟨a1, c1, rfl, hn1, hb1⟩
      go_wp2_with fail
      refine (HHY.out _).mono ?_
      rintro e w2 ⟨a2, c2, rfl, hn2, hb2⟩
      go_wp2_with fail
      refine (HWD.out _ _ _ hn2).mono ?_
      rintro e w3 ⟨rfl, rfl⟩
      go_wp2_with fail
      go_ret2
      rw [HR.out]; exact ⟨a2, c2, rfl, hn2, below_then hb1 hb2⟩
    · rw [if_pos (by omega)] at hE2
      have HR := Lib.hid (HG.out.trans hE2)
      have g11 : ((v : Int) != (wd : Int)) = true := by rw [bne_iff_ne]; omega
      clear hE2 HG hf hv hyl hw64 hyb
      go_enter Tryz.func65, Tryz.ntmps65
      go_wp2_with fail
      refine (HUP.out _).mono ?_
      rintro e w1 ⟨a1, c1, rfl, hn1, hb1⟩
      go_wp2_with fail
      refine (HHY.out _).mono ?_
      rintro e w2 ⟨a2, c2, rfl, hn2, hb2⟩
      go_wp2_with fail
      refine (HWD.out _ _ _ hn2).mono ?_
      rintro e w3 ⟨rfl, rfl⟩
      go_wp2_with fail
      go_ret2
      rw [HR.out]; exact AllPost.none_ 1 (below_then hb1 hb2)
  · have HR := Lib.hid (show R = ([], ey) by rw [HG.out]; unfold wchk; rw [if_pos hey])
    have g11 : ((ey : Int) != 0) = true := by rw [bne_iff_ne]; omega
    clear HG hf
    go_enter Tryz.func65, Tryz.ntmps65
    go_wp2_with fail
    refine (HUP.out _).mono ?_
    rintro e w1 ⟨a1, c1, rfl, hn1, hb1⟩
    go_wp2_with fail
    refine (HHY.out _).mono ?_
    rintro e w2 ⟨a2, c2, rfl, hn2, hb2⟩
    go_wp2_with fail
    go_ret2
    rw [HR.out]; exact AllPost.none_ ey (below_then hb1 hb2)
set_option maxHeartbeats 4000000 in
set_option maxRecDepth 100000 in
theorem nlof_any (s : List UInt8) (many : Int) (w : World) (hs : s.length ≤ maxLen) :
    Calls Tryz.prog 65 #[.string (str s), .int .i64 many] w (AllPost (nlR s many) w) := by
  unfold maxLen at hs
  by_cases h0 : many < 0
  · have HR := Lib.hid (show nlR s many = ([], 3) from if_pos h0)
    have g1 : decide (many < 0) = true := decide_eq_true h0
    go_enter Tryz.func65, Tryz.ntmps65
    go_wp2_with fail
    go_ret2
    rw [HR.out]; exact AllPost.none_ 3 (Below.refl _ _)
  have g1 : decide (many < 0) = false := decide_eq_false h0
  by_cases h1 : 64 < many
  · have HR := Lib.hid (show nlR s many = ([], 2) by unfold nlR; rw [if_neg h0, if_pos h1])
    have g2 : decide (64 < many) = true := decide_eq_true h1
    go_enter Tryz.func65, Tryz.ntmps65
    go_wp2_with fail
    go_ret2
    rw [HR.out]; exact AllPost.none_ 2 (Below.refl _ _)
  have g2 : decide (64 < many) = false := decide_eq_false h1
  obtain ⟨m, rfl⟩ : ∃ m : Nat, many = m := ⟨many.toNat, by omega⟩
  cases s with
  | nil =>
    have HR := Lib.hid (show nlR [] m = ([], 5) by unfold nlR; rw [if_neg h0, if_neg h1])
    have g3 : (((str []).size : Int) == 0) = true := by rw [str_size]; rfl
    generalize str [] = S at *
    go_enter Tryz.func65, Tryz.ntmps65
    go_wp2_with fail
    go_ret2
    rw [HR.out]; exact AllPost.none_ 5 (Below.refl _ _)
  | cons c t =>
    have hE : nlR (c :: t) m = if c.toNat < 1 ∨ 4 < c.toNat then ([], 7) else if c.toNat = 3 then dreadR t m else if c.toNat = 4 then P.read t m else nl2 c.toNat m t := by
      unfold nlR; rw [if_neg h0, if_neg h1]
    have hsz := str_size (c :: t)
    rw [List.length_cons] at hsz hs
    have hz : 0 < (str (c :: t)).size := by omega
    have hz1 : 1 ≤ (str (c :: t)).size := by omega
    have hz1I : (1 : Int) ≤ ((str (c :: t)).size : Int) := by omega
    have g3 : (((str (c :: t)).size : Int) == 0) = false := by rw [beq_eq_false_iff_ne]; omega
    have hc : (str (c :: t))[0].toNat = c.toNat := rfl
    have hX := str_tail c t
    have hcl := c.toNat_lt
    have hwc : IntKind.i64.wrap (c.toNat : Int) = (c.toNat : Int) := by rw [IntKind.wrap_i64]; omega
    generalize str (c :: t) = S at *
    generalize nlR (c :: t) m = R at *
    generalize c.toNat = n at *
    by_cases h7 : n < 1 ∨ 4 < n
    · rw [if_pos h7] at hE
      have HR := Lib.hid hE
      clear hE hX hsz
      by_cases h71 : n < 1
      · have g5 : decide ((n : Int) < 1) = true := decide_eq_true (by omega)
        clear h7 h71
        go_enter Tryz.func65, Tryz.ntmps65
        go_wp2_with fail
        go_ret2
        rw [HR.out]; exact AllPost.none_ 7 (Below.refl _ _)
      · have g5 : decide ((n : Int) < 1) = false := decide_eq_false (by omega)
        have g6 : decide ((4 : Int) < (n : Int)) = true := decide_eq_true (by omega)
        clear h7 h71
        go_enter Tryz.func65, Tryz.ntmps65
        go_wp2_with fail
        go_ret2
        rw [HR.out]; exact AllPost.none_ 7 (Below.refl _ _)
    rw [if_neg h7] at hE
    have g5 : decide ((n : Int) < 1) = false := decide_eq_false (by omega)
    have g6 : decide ((4 : Int) < (n : Int)) = false := decide_eq_false (by omega)
    by_cases h3 : n = 3
    · rw [if_pos h3] at hE
      have HR := Lib.hid hE
      have HC := Lib.hid (fun W => dof_any (str t) m W (by rw [str_size]; unfold maxLen; omega))
      rw [str_data, ← hX] at HC
      unfold AllPost at HC
      subst h3
      clear hE hX hsz h7
      go_enter Tryz.func65, Tryz.ntmps65
      go_wp2_with fail
      refine (HC.out _).mono ?_
      rintro e w1 ⟨a, c, rfl, ht, hb⟩
      go_wp2_with fail
      go_ret2
      rw [HR.out]; exact ⟨a, c, rfl, ht, hb⟩
    rw [if_neg h3] at hE
    have g7 : ((n : Int) == 3) = false := by rw [beq_eq_false_iff_ne]; omega
    by_cases h4 : n = 4
    · rw [if_pos h4] at hE
      have HR := Lib.hid hE
      have HC := Lib.hid (fun W => rpof_any (str t) m W (by rw [str_size]; unfold maxLen; omega))
      rw [str_data, ← hX] at HC
      unfold AllPost at HC
      subst h4
      clear hE hX hsz h7
      go_enter Tryz.func65, Tryz.ntmps65
      go_wp2_with fail
      refine (HC.out _).mono ?_
      rintro e w1 ⟨a, c, rfl, ht, hb⟩
      go_wp2_with fail
      go_ret2
      rw [HR.out]; exact ⟨a, c, rfl, ht, hb⟩
    rw [if_neg h4] at hE
    have g8 : ((n : Int) == 4) = false := by rw [beq_eq_false_iff_ne]; omega
    have HX := Lib.hid hX
    have hts : (str t).size = S.size - 1 := by have := congrArg ByteArray.size hX; rw [← this]; simp
    cases t with
    | nil =>
      have HR := Lib.hid (show R = ([], 5) from hE)
      have g9 : ((S.size - 1 : Nat) : Int) = 0 := by rw [← hts, str_size]; rfl
      have g9' : S.size - 1 = 0 := by omega
      clear hE hX hts h7
      go_enter Tryz.func65, Tryz.ntmps65
      go_wp2_with fail
      go_ret2
      rw [HR.out]; exact AllPost.none_ 5 (Below.refl _ _)
    | cons d u =>
      have hsu := str_size (d :: u)
      rw [List.length_cons] at hsu hs
      have hzT : 0 < (str (d :: u)).size := by omega
      have hz1T : 1 ≤ (str (d :: u)).size := by omega
      have hz1TI : (1 : Int) ≤ ((str (d :: u)).size : Int) := by omega
      have g9 : (((str (d :: u)).size : Int) == 0) = false := by rw [beq_eq_false_iff_ne]; omega
      have hXU := str_tail d u
      have hdl := d.toNat_lt
      have hwd : IntKind.i64.wrap (d.toNat : Int) = (d.toNat : Int) := by rw [IntKind.wrap_i64]; omega
      have hnn : n = 1 ∨ n = 2 := by omega
      rcases hnn with rfl | rfl
      · rw [hE]
        exact nlof_one S (str (d :: u)) (d.toNat) u m w hz hz1 hz1I g3 hc hX hzT hz1T hz1TI g9 rfl hwd hXU (by unfold maxLen; omega) h0 h1
      · rw [hE]
        exact nlof_two S (str (d :: u)) (d.toNat) u m w hz hz1 hz1I g3 hc hX hzT hz1T hz1TI g9 rfl hwd hXU (by unfold maxLen; omega) h0 h1
end Go.Proofs.YtcachhnhncodoaaGreat
namespace Go.Proofs
open Go.Shelf
def Tryz.laysM316_ren : Go.Shelf.Ren := ⟨fun | 316 => 207 | n => n, fun | 9 => 9 | 3 => 3 | 4 => 4 | 37 => 42 | 0 => 0 | 127 => 195 | 5 => 5 | n => n, fun | n => n⟩
theorem Tryz.laysM316 : Go.Proofs.LaysM.n316 Tryz.prog Tryz.laysM316_ren := {
  mixed := by kernel_rfl
  f316 := Tryz.func207.trans (congrArg some (by kernel_rfl))
  t0 := Tryz.underlying0
  a0 := Tryz.isAgg0
  z0 := Tryz.sizeOf0
  v0 := Tryz.zeroValue0
  t3 := Tryz.underlying3
  a3 := Tryz.isAgg3
  z3 := Tryz.sizeOf3
  v3 := Tryz.zeroValue3
  t4 := Tryz.underlying4
  a4 := Tryz.isAgg4
  z4 := Tryz.sizeOf4
  v4 := Tryz.zeroValue4
  t9 := Tryz.underlying9
  a9 := Tryz.isAgg9
  z9 := Tryz.sizeOf9
  v9 := Tryz.zeroValue9
  t37 := Tryz.underlying42
  a37 := Tryz.isAgg42
  z37 := Tryz.sizeOf42
  v37 := Tryz.zeroValue42
  t127 := Tryz.underlying195
  a127 := Tryz.isAgg195
  z127 := Tryz.sizeOf195
  v127 := Tryz.zeroValue195
  t5 := Tryz.underlying5
  a5 := Tryz.isAgg5
  z5 := Tryz.sizeOf5
  v5 := Tryz.zeroValue5
  i0 := by kernel_rfl
  i3 := by kernel_rfl
  i4 := by kernel_rfl
  i5 := by kernel_rfl
  i9 := by kernel_rfl
  i37 := by kernel_rfl
  i127 := by kernel_rfl }
open Go.RowKit in
theorem Tryz.stringslite_Clone (s : ByteArray) (w : World) (hlim : s.size ≤ 281474976710656) :
    Calls Tryz.prog 207 #[.string s] w fun e w' => e = .returned (.string s) ∧ Below w.heap.size w w' := Any.stringslite_Clone Tryz.laysM316 s w hlim
end Go.Proofs
