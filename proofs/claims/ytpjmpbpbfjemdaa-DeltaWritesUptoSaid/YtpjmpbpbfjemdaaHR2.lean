/- The walk of hypostyleref.HybridBytes. -/
import Derived.Test.YtpjmpbpbfjemdaaHR1
import Derived.Test.YtpjmpbpbfjemdaaHPlain3
import Derived.Test.YtpjmpbpbfjemdaaVaryR6
import Derived.Test.YtpjmpbpbfjemdaaBitsU2
namespace Go.Proofs.Ytpjmpbpbfjemdaa
open Go.RowKit
set_option linter.unusedVariables false

theorem one_nums2 {W : World} {b off n : Nat} (hc : W.cell? ⟨b, off, none⟩ = some (.int .u64 (n : Int))) : Nums W W.heap.size (some ⟨b, off, none⟩) [n] := by
  intro _
  refine ⟨b, off, rfl, World.block_lt_of_cell? W _ hc, fun i hi => ?_⟩
  have : i = 0 := by simpa using hi
  subst this
  simpa using hc

def lenS2 : Value → Nat
  | .slice _ n _ => n
  | _ => 0

set_option maxHeartbeats 4000000 in
set_option maxRecDepth 100000 in
theorem hbytes_some (b off c : Nat) (l : List Nat) (n : Nat) (w : World) (hl : l.length ≤ 1048576) (hcap : l.length ≤ c) (hcm : c ≤ maxLen) (hn : n ≤ 64) (hf : ∀ x ∈ l, x < 2 ^ n) (hb : b < w.heap.size)
    (hc : ∀ i, i < l.length → w.cell? ⟨b, off + i, none⟩ = some (.int .u64 ((l.getD i 0 : Nat) : Int))) :
    Calls Try.prog 47 #[.slice (some ⟨b, off, none⟩) l.length c, .int .i64 n] w (TextPost (H.bytes n l) w) := by
  unfold maxLen at hcm
  have hbl := H.bytes_len n l
  have hmul : (18 + n) * l.length ≤ (18 + 64) * 1048576 := Nat.mul_le_mul (by omega) hl
  have HTL := Lib.hid (show (H.bytes n l).length ≤ 85983232 by omega)
  have h64 : ∀ x, x < 2 ^ n → x < 18446744073709551616 := fun x hx => Nat.lt_of_lt_of_le hx (Nat.pow_le_pow_right (n := 2) (by omega) hn)
  have HF := Lib.hid hf
  have HC := Lib.hid hc
  have H64 := Lib.hid h64
  clear hbl hmul hf hc h64
  go_enter Try.func47, Try.ntmps47
  go_wp2_with fail
  go_loopw [5, 6, 7, 8, 9] (fun s i _ _ _ wr => ∃ (p : Nat) (cur : List UInt8), p ≤ l.length + 8 ∧ i = .int .i64 p ∧ s = .string (str cur) ∧ Hid (cur ++ H.bytes n (l.drop p) = H.bytes n l) ∧ Below w.heap.size w wr) (fun _ i _ _ _ _ => l.length + 8 - (intOf i).toNat)
  case atStart => exact ⟨0, [], by omega, rfl, rfl, Lib.hid (by simp), Below.refl _ _⟩
  case round =>
    obtain ⟨p, cur, hp, rfl, rfl, HB, hbw⟩ := hrel
    have hcl : cur.length ≤ 85983232 := by have := HTL.out; rw [← HB.out, List.length_append] at this; omega
    by_cases hlt : p < l.length
    · have hsf := fun w' (h : Below w.heap.size w w') => sameFrom_any b off c l p w' hl hlt (fun i hi => (h.cell (p := ⟨b, off + i, none⟩) hb).trans (HC.out i hi))
      have hne : l.drop p ≠ [] := fun e => by have := congrArg List.length e; rw [List.length_drop] at this; simp at this; omega
      have hrp := H.row_pos _ hne
      have hrl := H.row_le (l.drop p)
      rw [List.length_drop] at hrl
      have HRUN := Lib.hid (fun h8 => H.bytes_run n (l.drop p) hne h8)
      have HBLK := Lib.hid (fun h8 => H.bytes_blk n (l.drop p) hne h8)
      have hhd : (l.drop p).headD 0 = l.getD p 0 := by
        rw [List.drop_eq_getElem_cons hlt]; simp [List.getD, List.getElem?_eq_getElem hlt]
      have hx0 : (l.drop p).headD 0 < 2 ^ n := by rw [hhd]; exact HF.out _ (getD_mem l p hlt)
      have HSTEP := Lib.hid (fun q h => H.pad_step l q h)
      have hr : H.row (l.drop p) = H.row (l.drop p) := rfl
      obtain ⟨r, hre⟩ : ∃ r, r = H.row (l.drop p) := ⟨_, rfl⟩
      have HSF := Lib.hid (fun q (hq : q < l.length) w' (h : Below w.heap.size w w') => sameFrom_any b off c l q w' hl hq (fun i hi => (h.cell (p := ⟨b, off + i, none⟩) hb).trans (HC.out i hi)))
      have hsf1 := hsf wr hbw
      rw [← hre] at hsf1 hrp hrl HRUN HBLK
      have HSF1 := Lib.hid hsf1
      have HRE := Lib.hid hre
      clear hsf hsf1 hr hre
      by_cases h8 : 8 ≤ r
      · have g1 : decide ((8 : Int) ≤ (r : Int)) = true := by simp; omega
        obtain ⟨tc, htc⟩ : ∃ tc, tc = str cur := ⟨_, rfl⟩
        obtain ⟨t1, ht1⟩ : ∃ t1, t1 = str (V.enc (2 * r)) := ⟨_, rfl⟩
        obtain ⟨t2, ht2⟩ : ∃ t2, t2 = str (H.pkd n [(l.drop p).headD 0]) := ⟨_, rfl⟩
        have hs0 : tc.size ≤ 85983232 := by rw [htc, str_size]; exact hcl
        have hs1 : t1.size ≤ 9 := by rw [ht1, str_size, V.enc_length]; exact V.sz_le _
        have hs2 : t2.size ≤ 8 := by rw [ht2, str_size, H.pkd_length]; unfold B.sz; simp; omega
        have hcat1 : ¬ 9223372036854775807 < t1.size + t2.size := by omega
        have hcat2 : ¬ 9223372036854775807 < tc.size + (t1.size + t2.size) := by omega
        have HSUM := Lib.hid (show tc ++ (t1 ++ t2) = str (cur ++ H.Part.bytes n (.run ((l.drop p).headD 0) r)) by rw [htc, ht1, ht2, str_append, str_append]; rfl)
        have HVB := Lib.hid (fun w => show Calls Try.prog 35 #[.int .u64 ((2 * r : Nat) : Int)] w (fun e w' => e = .returned (.string t1) ∧ Below w.heap.size w w') by rw [ht1]; exact vbytes_any (2 * r) w (by omega))
        have HPK := Lib.hid (fun W c' (h : Below w.heap.size w W) => show Calls Try.prog 56 #[.slice (some ⟨b, off + p, none⟩) 1 c', .int .i64 n] W (fun e w' => e = .returned (.string t2) ∧ Below W.heap.size W w') by
          rw [ht2]
          have hcell := (h.cell (p := ⟨b, off + p, none⟩) hb).trans (HC.out p hlt)
          rw [← hhd] at hcell
          exact packedL_any (some ⟨b, off + p, none⟩) c' [(l.drop p).headD 0] n W (by simp) hn (by simpa using hx0) (by simpa using H64.out _ hx0) (one_nums2 hcell))
        have HR8 := Lib.hid (HRUN.out h8)
        have hw2 : IntKind.u64.wrap (2 * (r : Int)) = ((2 * r : Nat) : Int) := by rw [IntKind.wrap_u64]; omega
        have hi2 : IntKind.i64.wrap (2 * (r : Int)) = 2 * (r : Int) := by rw [IntKind.wrap_i64]; omega
        have hp1 : IntKind.i64.wrap ((p : Int) + 1) = (p : Int) + 1 := by rw [IntKind.wrap_i64]; omega
        have hp0 : (0 : Int) ≤ (p : Int) + 1 := by omega
        have hpt : ((p : Int) + 1).toNat = p + 1 := by omega
        have hpm : p + 1 - p = 1 := by omega
        have hpI : (0 : Int) ≤ (p : Int) := by omega
        have hpq : (p : Int) ≤ (p : Int) + 1 := by omega
        have hqc : (p : Int) + 1 ≤ (c : Int) := by omega
        have hcp : ¬ c = p := by omega
        have hpr : IntKind.i64.wrap ((p : Int) + (r : Int)) = (p : Int) + (r : Int) := by rw [IntKind.wrap_i64]; omega
        have HDD := Lib.hid (show (l.drop p).drop r = l.drop (p + r) from List.drop_drop)
        rw [← htc]
        generalize (l.drop p).headD 0 = x at *
        clear ht1 ht2 htc hhd hne hcl HRUN HBLK HSTEP HSF
        go_wp2_with fail
        refine (HSF1.out).mono ?_
        rintro e w1 ⟨rfl, hb1⟩
        have hbw1 := hbw.trans (hb1.mono hbw.size)
        go_wp2_with fail
        go_region_held3 (fun W => True) (exact trivial)
          (first
            | (go_at_call 35; refine (HVB.out _).mono ?_; rintro e w3 ⟨rfl, hb3⟩)
            | (go_at_call 56; refine (HPK.out _ _ (below_then hbw1.drew hb3)).mono ?_; rintro e w4 ⟨rfl, hb4⟩))
        all_goals
          go_wp2_with fail
          refine ⟨⟨p + r, cur ++ H.Part.bytes n (.run x r), by omega, by simp, by rw [← HSUM.out], Lib.hid ?_, below_then (below_then hbw1.drew hb3) hb4⟩, by simp [intOf]; omega⟩
          rw [List.append_assoc, ← HDD.out, ← HR8.out]; exact HB.out
      · have g1 : decide ((8 : Int) ≤ (r : Int)) = false := by simp; omega
        have HB8 := Lib.hid (HBLK.out h8)
        have hlo1 := H.loose_pos (l.drop p) (fun e => e.elim hne (fun e => by rw [← HRE.out] at e; exact h8 e))
        have hlp := H.loose_le (l.drop p)
        rw [List.length_drop] at hlp
        have HPL := Lib.hid (show (H.pad ((l.drop p).take (H.loose (l.drop p)))).length = H.nb (H.loose (l.drop p)) * 8 by
          rw [H.pad_length, List.length_take, List.length_drop, Nat.min_eq_left hlp])
        have hnb8 : H.nb (H.loose (l.drop p)) * 8 ≤ l.length + 7 := by unfold H.nb; omega
        have HPM := Lib.hid (H.pad_mem ((l.drop p).take (H.loose (l.drop p))) n (fun x hx => HF.out x (List.mem_of_mem_drop (List.mem_of_mem_take hx))))
        have HPB := Lib.hid (show H.Part.bytes n (.blk ((l.drop p).take (H.loose (l.drop p)))) = V.enc (2 * H.nb (H.loose (l.drop p)) + 1) ++ H.pkd n (H.pad ((l.drop p).take (H.loose (l.drop p)))) by
          simp only [H.Part.bytes]; rw [List.length_take, List.length_drop, Nat.min_eq_left hlp])
        generalize hlo : H.loose (l.drop p) = lo at *
        generalize hPD : H.pad ((l.drop p).take lo) = PD at *
        have HLO := Lib.hid hlo
        have HPD := Lib.hid hPD
        obtain ⟨tc, htc⟩ : ∃ tc, tc = str cur := ⟨_, rfl⟩
        have hs0 : tc.size ≤ 85983232 := by rw [htc, str_size]; exact hcl
        obtain ⟨K, hK⟩ : ∃ K, K = H.nb lo := ⟨_, rfl⟩
        have HK := Lib.hid hK
        rw [← hK] at hnb8 HPB
        obtain ⟨t1, ht1⟩ : ∃ t1, t1 = str (V.enc (2 * K + 1)) := ⟨_, rfl⟩
        obtain ⟨t2, ht2⟩ : ∃ t2, t2 = str (H.pkd n PD) := ⟨_, rfl⟩
        have HT2 := Lib.hid ht2
        have hs1 : t1.size ≤ 9 := by rw [ht1, str_size, V.enc_length]; exact V.sz_le _
        have hs2 : t2.size ≤ 8389121 := by
          rw [ht2, str_size, H.pkd_length, HPL.out, HK.out.symm]
          have := Nat.mul_le_mul (show K * 8 ≤ 1048584 by omega) hn
          unfold B.sz; omega
        have hcat1 : ¬ 9223372036854775807 < t1.size + t2.size := by omega
        have hcat2 : ¬ 9223372036854775807 < tc.size + (t1.size + t2.size) := by omega
        have HSUM := Lib.hid (show tc ++ (t1 ++ t2) = str (cur ++ H.Part.bytes n (.blk ((l.drop p).take lo))) by rw [htc, ht1, ht2, str_append, str_append, HPB.out])
        have HVB := Lib.hid (fun w => show Calls Try.prog 35 #[.int .u64 ((2 * K + 1 : Nat) : Int)] w (fun e w' => e = .returned (.string t1) ∧ Below w.heap.size w w') by rw [ht1]; exact vbytes_any (2 * K + 1) w (by omega))
        have hk2 : IntKind.i64.wrap ((K : Int) * 2) = (K : Int) * 2 := by rw [IntKind.wrap_i64]; omega
        have hk3 : IntKind.i64.wrap ((K : Int) * 2 + 1) = (K : Int) * 2 + 1 := by rw [IntKind.wrap_i64]; omega
        have hk4 : IntKind.u64.wrap ((K : Int) * 2 + 1) = ((2 * K + 1 : Nat) : Int) := by rw [IntKind.wrap_u64]; omega
        have HDD := Lib.hid (show (l.drop p).drop lo = l.drop (p + lo) from List.drop_drop)
        rw [← htc]
        clear hK ht1 ht2
        clear hlo hPD htc hhd hne hcl HRUN HBLK hx0
        go_wp2_with fail
        refine (HSF1.out).mono ?_
        rintro e w1 ⟨rfl, hb1⟩
        have hbw1 := hbw.trans (hb1.mono hbw.size)
        go_wp2_with fail
        go_loopw [6, 8, 9] (fun i v _ wr2 => ∃ (q : Nat) (xs : List Nat), p ≤ q ∧ q ≤ l.length + 7 ∧ i = .int .i64 q ∧ NumRow w.heap.size xs v wr2 ∧ Hid (xs ++ H.pad ((l.drop q).take (H.loose (l.drop q))) = PD) ∧ Hid (l.drop (q + H.loose (l.drop q)) = l.drop (p + lo)) ∧ Below w.heap.size w wr2) (fun i _ _ _ => l.length + 8 - (intOf i).toNat)
        case atStart => exact ⟨p, [], by omega, by omega, rfl, ⟨rfl, Or.inl ⟨rfl, rfl⟩⟩, Lib.hid (by rw [HLO.out, HPD.out]; rfl), Lib.hid (by rw [HLO.out]), hbw1⟩
        case round =>
          obtain ⟨q, xs, hpq, hq7, rfl, hrow, HX, HD, hbw2⟩ := hrel
          have hxl : xs.length ≤ l.length + 7 := by
            have := congrArg List.length HX.out
            rw [List.length_append, HPL.out, ← HK.out] at this; omega
          by_cases hql : q < l.length
          · have hs2 := HSF.out q hql wr hbw2
            have HST := Lib.hid (fun h => H.pad_step l q h)
            have hqne : l.drop q ≠ [] := fun e => by have := congrArg List.length e; rw [List.length_drop] at this; simp at this; omega
            obtain ⟨r2, hr2⟩ : ∃ r2, r2 = H.row (l.drop q) := ⟨_, rfl⟩
            rw [← hr2] at hs2
            have hr2b := H.row_le (l.drop q)
            rw [← hr2, List.length_drop] at hr2b
            have HS2 := Lib.hid hs2
            have HR2 := Lib.hid hr2
            clear hs2 hr2
            by_cases hr8 : r2 < 8
            · have g2 : decide ((r2 : Int) < 8) = true := by simp; omega
              have HPS := Lib.hid (HST.out (fun e => e.elim hqne (fun e => by rw [← HR2.out] at e; omega)))
              go_wp2_with fail
              refine (HS2.out).mono ?_
              rintro e w2 ⟨rfl, hb2⟩
              have hrow2 : NumRow w.heap.size xs u8 w2 := row_below hrow hb2
              have hbw3 := hbw2.trans (hb2.mono hbw2.size)
              go_wp2_with fail
              go_loopw [6, 8, 9] (fun i v kk wr3 => ∃ (k j : Nat), k ≤ 8 ∧ Hid (j = q + k) ∧ kk = .int .i64 k ∧ i = .int .i64 j ∧ NumRow w.heap.size (xs ++ H.eightK l q k) v wr3 ∧ Below w.heap.size w wr3) (fun _ _ kk _ => 8 - (intOf kk).toNat)
              case atStart => exact ⟨0, q, by omega, Lib.hid rfl, rfl, rfl, by simpa [H.eightK] using hrow2, hbw3⟩
              case round =>
                obtain ⟨k, j, hk8, HJ, rfl, rfl, hrow3, hbw4⟩ := hrel
                have hj := HJ.out
                by_cases hk : k < 8
                · have HES := Lib.hid (H.eightK_succ l q k)
                  have hxl3 : (xs ++ H.eightK l q k).length = xs.length + k := by rw [List.length_append, H.eightK_length]
                  have hjn : j ≤ l.length + 16 := by omega
                  have hlj : l.getD (q + k) 0 = l.getD j 0 := by rw [hj]
                  rw [hlj] at HES
                  generalize H.eightK l q k = ek at *
                  clear hj hlj
                  by_cases hjl : j < l.length
                  · have hcell := (hbw4.cell (p := ⟨b, off + j, none⟩) hb).trans (HC.out j hjl)
                    generalize l.getD j 0 = y at *
                    have hb5 : w.heap.size ≤ (wr.alloc (.cells #[.int .u64 (y : Int)] 23)).heap.size := by have := hbw4.size; simp; omega
                    have hrow3' : wr.ownsRow w.heap.size 23 1 u8 (xs ++ ek).length (nv (xs ++ ek)) := hrow3
                    have HROW := Lib.hid hrow3'
                    clear hrow3 hrow3'
                    go_wp2_with (at_builtin; refine wpList_append_one rfl (.tmp 54) (.tmp 59) rfl w.heap.size _ (xs ++ ek).length _ rfl (HROW.out.alloc _) wr.heap.size y rfl (World.cell?_alloc_new _ _ _ _) (by omega) hb5 ?_)
                    intro v' w5 hown5 hgrow5
                    go_wp2_with fail
                    have hbw5 : Below w.heap.size w w5 := (hbw4.alloc hbw4.size _).grown hgrow5 (by have := hbw4.size; simp; omega) (fun k hk => (HROW.out.lt k hk).1)
                    refine ⟨⟨k + 1, j + 1, by omega, Lib.hid (by have := HJ.out; omega), by go_num, by go_num, ?_, hbw5⟩, by simp [intOf]; omega⟩
                    rw [HES.out, ← List.append_assoc]
                    unfold NumRow; rw [List.length_append, hxl3]; simpa [nv, hxl3] using hown5
                  · have hl0 : l.getD j 0 = 0 := by simp [List.getD, List.getElem?_eq_none (show l.length ≤ j by omega)]
                    rw [hl0] at HES
                    have g3 : decide ((j : Int) < (l.length : Int)) = false := by simp; omega
                    have hb5 : w.heap.size ≤ (wr.alloc (.cells #[.int .u64 ((0 : Nat) : Int)] 23)).heap.size := by have := hbw4.size; simp; omega
                    have hrow3' : wr.ownsRow w.heap.size 23 1 u8 (xs ++ ek).length (nv (xs ++ ek)) := hrow3
                    have HROW := Lib.hid hrow3'
                    clear hrow3 hrow3' hl0
                    go_wp2_with (at_builtin; refine wpList_append_one rfl (.tmp 61) (.tmp 62) rfl w.heap.size _ (xs ++ ek).length _ rfl (HROW.out.alloc _) wr.heap.size 0 rfl (World.cell?_alloc_new _ _ _ _) (by omega) hb5 ?_)
                    intro v' w5 hown5 hgrow5
                    go_wp2_with fail
                    have hbw5 : Below w.heap.size w w5 := (hbw4.alloc hbw4.size _).grown hgrow5 (by have := hbw4.size; simp; omega) (fun k hk => (HROW.out.lt k hk).1)
                    refine ⟨⟨k + 1, j + 1, by omega, Lib.hid (by have := HJ.out; omega), by go_num, by go_num, ?_, hbw5⟩, by simp [intOf]; omega⟩
                    rw [HES.out, ← List.append_assoc]
                    unfold NumRow; rw [List.length_append, hxl3]; simpa [nv, hxl3] using hown5
                · obtain rfl : k = 8 := by omega
                  subst hj
                  go_wp2_with fail
                  refine ⟨⟨q + 8, xs ++ H.eightK l q 8, by omega, by omega, rfl, hrow3, Lib.hid ?_, Lib.hid ?_, hbw4⟩, by simp [intOf]; omega⟩
                  · rw [List.append_assoc, ← (HPS.out).1]; exact HX.out
                  · rw [← (HPS.out).2]; exact HD.out
            · have g2 : decide ((r2 : Int) < 8) = false := by simp; omega
              have hstop : l.drop q = [] ∨ 8 ≤ H.row (l.drop q) := Or.inr (by rw [← HR2.out]; omega)
              go_wp2_with fail
              refine (HS2.out).mono ?_
              rintro e w2 ⟨rfl, hb2⟩
              have hrow2 : NumRow w.heap.size xs u8 w2 := row_below hrow hb2
              have hbw3 := hbw2.trans (hb2.mono hbw2.size)
              clear hrow
              have hstop2 := H.pad_stop (l.drop q) hstop
              have hqp : q ≠ p := fun e => by rw [e, HLO.out] at hstop2; omega
              have hxs : xs = PD := by rw [← HX.out, hstop2.1, List.append_nil]
              have HDQ := Lib.hid (show l.drop q = l.drop (p + lo) by rw [← HD.out, hstop2.2, Nat.add_zero])
              obtain ⟨a4, c4, rfl, hnum, _, _⟩ := numRow_numsc hrow2
              have hxK : xs.length = K * 8 := by rw [hxs, HPL.out, HK.out]
              have hq8 : ((xs.length : Int) / 8) = (K : Int) := by omega
              have HPK2 := Lib.hid (fun W (h : Nums W W.heap.size a4 xs) => show Calls Try.prog 56 #[.slice a4 xs.length c4, .int .i64 n] W (fun e w' => e = .returned (.string t2) ∧ Below W.heap.size W w') by
                have := packedL_any a4 c4 xs n W (by omega) hn (by rw [hxs]; exact HPM.out) (fun x hx => H64.out x (by rw [hxs] at hx; exact HPM.out x hx)) h
                rw [HT2.out, ← hxs]; exact this)
              clear hstop2 hxs hxK hrow2
              go_wp2_with fail
              refine (HVB.out _).mono ?_
              rintro e w3 ⟨rfl, hb3⟩
              go_wp2_with fail
              refine (HPK2.out _ (hnum.next hb3)).mono ?_
              rintro e w4 ⟨rfl, hb4⟩
              go_wp2_with fail
              refine ⟨⟨q, cur ++ H.Part.bytes n (.blk ((l.drop p).take lo)), by omega, rfl, by rw [← HSUM.out], Lib.hid ?_, below_then (below_then hbw3 hb3) hb4⟩, by simp [intOf]; omega⟩
              rw [List.append_assoc, HDQ.out, ← HDD.out, ← HB8.out]; exact HB.out
          · have hstop : l.drop q = [] ∨ 8 ≤ H.row (l.drop q) := Or.inl (List.drop_eq_nil_of_le (by omega))
            have g3 : decide ((q : Int) < (l.length : Int)) = false := by simp; omega
            have hstop2 := H.pad_stop (l.drop q) hstop
            have hqp : q ≠ p := fun e => by rw [e, HLO.out] at hstop2; omega
            have hxs : xs = PD := by rw [← HX.out, hstop2.1, List.append_nil]
            have HDQ := Lib.hid (show l.drop q = l.drop (p + lo) by rw [← HD.out, hstop2.2, Nat.add_zero])
            obtain ⟨a4, c4, rfl, hnum, _, _⟩ := numRow_numsc hrow
            have hxK : xs.length = K * 8 := by rw [hxs, HPL.out, HK.out]
            have hq8 : ((xs.length : Int) / 8) = (K : Int) := by omega
            have HPK2 := Lib.hid (fun W (h : Nums W W.heap.size a4 xs) => show Calls Try.prog 56 #[.slice a4 xs.length c4, .int .i64 n] W (fun e w' => e = .returned (.string t2) ∧ Below W.heap.size W w') by
              have := packedL_any a4 c4 xs n W (by omega) hn (by rw [hxs]; exact HPM.out) (fun x hx => H64.out x (by rw [hxs] at hx; exact HPM.out x hx)) h
              rw [HT2.out, ← hxs]; exact this)
            clear hstop2 hxs hxK hrow
            go_wp2_with fail
            refine (HVB.out _).mono ?_
            rintro e w3 ⟨rfl, hb3⟩
            go_wp2_with fail
            refine (HPK2.out _ (hnum.next hb3)).mono ?_
            rintro e w4 ⟨rfl, hb4⟩
            go_wp2_with fail
            refine ⟨⟨q, cur ++ H.Part.bytes n (.blk ((l.drop p).take lo)), by omega, rfl, by rw [← HSUM.out], Lib.hid ?_, below_then (below_then hbw2 hb3) hb4⟩, by simp [intOf]; omega⟩
            rw [List.append_assoc, HDQ.out, ← HDD.out, ← HB8.out]; exact HB.out
    · have hnil : l.drop p = [] := List.drop_eq_nil_of_le (by omega)
      have hB := HB.out
      rw [hnil, H.bytes_nil, List.append_nil] at hB
      subst hB
      have g1 : decide ((p : Int) < (l.length : Int)) = false := by simp; omega
      go_wp2_with fail
      go_ret
      exact ⟨rfl, hbw⟩

set_option maxHeartbeats 400000 in
theorem hbytes_nil (a : Option Addr) (c : Nat) (n : Int) (w : World) :
    Calls Try.prog 47 #[.slice a 0 c, .int .i64 n] w (TextPost [] w) := by
  go_enter Try.func47, Try.ntmps47
  go_wp2_with fail
  refine wp_loop_rounds 1 ?_
  rw [rounds_succ]
  go_wp2_with fail
  go_ret
  exact ⟨rfl, Below.refl _ _⟩

theorem hbytes_any (a : Option Addr) (c : Nat) (l : List Nat) (n : Nat) (w : World) (hl : l.length ≤ 1048576) (hcap : l.length ≤ c) (hcm : c ≤ maxLen) (hn : n ≤ 64) (hf : ∀ x ∈ l, x < 2 ^ n) (hu : Nums w w.heap.size a l) :
    Calls Try.prog 47 #[.slice a l.length c, .int .i64 n] w (TextPost (H.bytes n l) w) := by
  by_cases h : l = []
  · subst h; exact hbytes_nil a c n w
  · obtain ⟨b, off, rfl, hb, hc⟩ := hu h
    exact hbytes_some b off c l n w hl hcap hcm hn hf hb hc
end Go.Proofs.Ytpjmpbpbfjemdaa
