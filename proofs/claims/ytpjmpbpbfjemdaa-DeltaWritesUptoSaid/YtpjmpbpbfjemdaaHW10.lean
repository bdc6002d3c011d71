/- The walk of hybrid.first: blocks; all of it. -/
import Derived.Test.YtpjmpbpbfjemdaaHW9
namespace Go.Proofs.Ytpjmpbpbfjemdaa
open Go.RowKit
set_option linter.unusedVariables false

theorem PV.blk {W : World} {A : Option Addr} {wn c : Nat} {xs : List Nat} (h : xs.length = wn) (hn : Nums W W.heap.size A xs) : PV W (.iface 85 (.slice A wn c)) (.blk xs) := ⟨A, c, by rw [h], hn⟩

set_option maxHeartbeats 400000 in
set_option maxRecDepth 100000 in
theorem first_odd (s : ByteArray) (left wide m k : Nat) (w : World) (hs : s.size ≤ maxLen) (hl : left ≤ 64) (hw : wide ≤ 64) (hm1 : 1 ≤ m) (hl1 : 1 ≤ left) (hm2 : m ≤ H.nb left) (hk : k ≤ 9) (hks : k ≤ s.size) (hr : V.rd s.data.toList = (2 * m + 1, k, 0)) :
    Calls Try.prog 87 #[.string s, .int .i64 left, .int .i64 wide] w (FirstPost (H.first s.data.toList left wide) w) := by
  obtain ⟨T, hT⟩ : ∃ T, T = m * 8 := ⟨_, rfl⟩
  have hnb : H.nb left ≤ 8 := by unfold H.nb; omega
  have hheld : H.held (2 * m + 1) = T := by unfold H.held; rw [if_pos (by omega), hT]; omega
  have hfit : H.fit (2 * m + 1) left = 0 := by unfold H.fit; rw [if_neg (by omega), if_pos (show (2 * m + 1) % 2 = 1 by omega), if_neg (by omega)]
  have hfl := first_ok s.data.toList left wide _ _ hr
  unfold H.firstL at hfl
  obtain ⟨M, hM⟩ : ∃ M, M = T * wide := ⟨_, rfl⟩
  rw [if_neg (by simp [hfit]), hheld, len_data, ← hM] at hfl
  obtain ⟨Z, hZ⟩ : ∃ Z, Z = B.sz M := ⟨_, rfl⟩
  obtain ⟨E, hE⟩ : ∃ E, E = k + Z := ⟨_, rfl⟩
  rw [← hZ, ← hE] at hfl
  have hT64 : 8 ≤ T ∧ T ≤ 64 := by omega
  have hM4 : M ≤ 64 * 64 := by rw [hM]; exact Nat.mul_le_mul hT64.2 hw
  have hz8 : Z ≤ 512 := by rw [hZ]; unfold B.sz; omega
  have hsz := hs
  unfold maxLen at hsz
  have hv := fun w => vread_any s w hs
  rw [hr] at hv
  have HV := Lib.hid hv
  have hft := fun w => hfit_any (2 * m + 1) left w (by omega) hl
  rw [hfit] at hft
  have HFT := Lib.hid hft
  have hq1 : (((2 * m + 1 : Nat) : Int) / 2) = (m : Int) := by omega
  have hq2 : IntKind.i64.wrap (m : Int) = (m : Int) := by rw [IntKind.wrap_i64]; omega
  have g1 : (((2 * m + 1 : Nat) : Int) % 2 == 1) = true := by rw [beq_iff_eq]; omega
  have g2 : (((2 * m + 1 : Nat) : Int) % 2 == 0) = false := by rw [beq_eq_false_iff_ne]; omega
  have hq5 : ((m : Int) * 8) = (T : Int) := by omega
  have hq6 : ((T : Int) * (wide : Int)) = (M : Int) := by rw [hM]; simp
  have hq3 : (((M : Int) + 7) / 8) = (Z : Int) := by rw [hZ]; unfold B.sz; omega
  have hq4 : ((k : Int) + (Z : Int)) = (E : Int) := by omega
  have HKE := Lib.hid hE
  have hEb : k ≤ E ∧ E ≤ 521 := by omega
  obtain ⟨wn, hwn⟩ : ∃ wn, wn = min left T := ⟨_, rfl⟩
  have hwn1 : 1 ≤ wn ∧ wn ≤ T := by omega
  have hmn : min (left : Int) (T : Int) = (wn : Int) := by omega
  have hH : ∃ h : Nat, h = 2 * m + 1 := ⟨_, rfl⟩
  obtain ⟨h, hh⟩ := hH
  rw [← hh] at hq1 g1 g2 HV HFT
  have hheld2 : H.held h = T := by rw [hh]; exact hheld
  have hhm : h / 2 = m ∧ ¬ h % 2 = 0 := by omega
  rw [← hh] at hfl
  have HM := Lib.hid hM
  have HWN := Lib.hid hwn
  clear hv hr hft hfit hheld hE hh hM hT hwn
  by_cases hlen : s.size < E
  · have HF := Lib.hid (show (H.first s.data.toList left wide).1 = 5 by rw [hfl, if_pos hlen])
    generalize H.first s.data.toList left wide = r at *
    clear hfl hZ
    go_enter Try.func87, Try.ntmps87
    go_wp2_with fail
    refine (HV.out _).mono ?_
    rintro e1 w1 ⟨rfl, hb⟩
    go_wp2_with fail
    refine (HFT.out _).mono ?_
    rintro e1 w2 ⟨rfl, rfl⟩
    go_wp2_with fail
    go_ret3
    exact FirstPost.bad (er := 5) hb HF.out (by omega)
  · rw [if_neg hlen] at hfl
    obtain ⟨d, hd⟩ : ∃ d, d = (s.data.toList.drop k).take Z := ⟨_, rfl⟩
    have hdx : (s.extract k E).data.toList = d := by rw [ext_data, hd, show E - k = Z by have := HKE.out; omega]
    have hdl : d.length = B.sz (T * wide) := by rw [hd, List.length_take, List.length_drop, len_data, ← HM.out, ← hZ]; have := HKE.out; omega
    have hun : ∀ w, Calls Try.prog 80 #[.string (s.extract k E), .int .i64 T, .int .i64 wide] w (AllPostC (if B.leN d / 2 ^ M ≠ 0 then ([], 1) else (B.dg wide T (B.leN d), 0)) w) := fun w => by
      have := unpackc_any (s.extract k E) T wide w (by simp; omega)
      rw [hdx, unpR_eq d T wide (by omega) hw hdl, ← HM.out] at this
      exact this
    rw [← hd] at hfl
    unfold H.body at hfl
    rw [hheld2, if_neg hhm.2, ← HM.out, ← HWN.out] at hfl
    have hxl : ∀ x ∈ B.dg wide T (B.leN d), x < 18446744073709551616 := fun x hx => Nat.lt_of_lt_of_le (B.dg_lt wide T _ x hx) (Nat.pow_le_pow_right (n := 2) (by omega) hw)
    have hxn := B.dg_length wide T (B.leN d)
    clear hhm hheld2 hdl hdx hd
    have hEs : (E : Int) ≤ (s.size : Int) := by omega
    have hkE : (k : Int) ≤ (E : Int) := by omega
    by_cases hbad : B.leN d / 2 ^ M ≠ 0
    · rw [if_pos hbad] at hun hfl
      have HF := Lib.hid (show (H.first s.data.toList left wide).1 = 1 by rw [hfl])
      have HUN := Lib.hid hun
      generalize H.first s.data.toList left wide = r at *
      clear hfl hun hbad hxl hxn hZ
      go_enter Try.func87, Try.ntmps87
      go_wp2_with fail
      refine (HV.out _).mono ?_
      rintro e1 w1 ⟨rfl, hb⟩
      go_wp2_with fail
      refine (HFT.out _).mono ?_
      rintro e1 w2 ⟨rfl, rfl⟩
      go_wp2_with fail
      refine (HUN.out _).mono ?_
      rintro e1 w3 ⟨a, c, rfl, hnum, hlc, hcm, hb3⟩
      go_wp2_with fail
      go_ret3
      exact FirstPost.bad (er := 1) (below_then hb hb3) HF.out (by omega)
    · rw [if_neg hbad] at hun hfl
      generalize B.dg wide T (B.leN d) = xs at *
      have HUN := Lib.hid hun
      have HF := Lib.hid hfl
      have HXL := Lib.hid hxl
      have HXN := Lib.hid hxn
      generalize H.first s.data.toList left wide = r at *
      clear hfl hun hbad hxl hxn hZ
      go_enter Try.func87, Try.ntmps87
      go_wp2_with fail
      refine (HV.out _).mono ?_
      rintro e1 w1 ⟨rfl, hb⟩
      go_wp2_with fail
      refine (HFT.out _).mono ?_
      rintro e1 w2 ⟨rfl, rfl⟩
      go_wp2_with fail
      refine (HUN.out _).mono ?_
      rintro e1 w3 ⟨a, c, rfl, hnum, hlc, hcm, hb3⟩
      have hxn := HXN.out
      obtain ⟨b, off, rfl, hbl, hcell⟩ := hnum (fun e => by have e : xs = [] := e; rw [e] at hxn; simp at hxn; omega)
      have HNUM := Lib.hid hnum
      have hwd := fun A c' (hA : Nums w3 w3.heap.size A (xs.drop wn)) => width_any A c' (xs.drop wn) w3 w3.heap.size (by rw [List.length_drop]; unfold maxLen; omega) (fun x hx => HXL.out x (List.mem_of_mem_drop hx)) hA
      rw [List.length_drop, hxn] at hwd
      have hwd64 := B.wd_64 (xs.drop wn) (fun x hx => HXL.out x (List.mem_of_mem_drop hx))
      have HCUT := Lib.hid (Nums.cutIf (k := wn) (c := c) hnum hlc)
      have HDR := Lib.hid (Nums.drop hnum wn)
      have HTL := Lib.hid (show (xs.take wn).length = wn by rw [List.length_take]; omega)
      simp only [hxn] at hlc ⊢
      generalize B.wd (xs.drop wn) = dd at *
      have HWD := Lib.hid hwd
      unfold maxLen at hcm
      have hwT : (wn : Int) ≤ (T : Int) := by omega
      have hwc : (wn : Int) ≤ (c : Int) := by omega
      clear hwd hnum hcell hxn
      by_cases hz : dd = 0
      · subst hz
        go_wp2_with fail
        all_goals
          refine (HWD.out _ _ (by first | exact HDR.out | (have hh := HCUT.out; rw [if_pos (by assumption)] at hh; exact hh))).mono ?_
          rintro e1 w4 ⟨rfl, rfl⟩
          go_wp2_with fail
          go_ret3
          refine FirstPost.good (below_then hb hb3) (HF.out.trans (if_neg (by simp))) ?_
          exact PV.blk HTL.out (HNUM.out.take wn)
      · have g3 : ((dd : Int) != 0) = true := by rw [bne_iff_ne]; omega
        go_wp2_with fail
        all_goals
          refine (HWD.out _ _ (by first | exact HDR.out | (have hh := HCUT.out; rw [if_pos (by assumption)] at hh; exact hh))).mono ?_
          rintro e1 w4 ⟨rfl, rfl⟩
          go_wp2_with fail
          go_ret3
          exact FirstPost.bad (er := 1) (below_then hb hb3) (by rw [HF.out, if_pos hz]) (by omega)

theorem hfirst_any (s : ByteArray) (left wide : Nat) (w : World) (hs : s.size ≤ maxLen) (hl1 : 1 ≤ left) (hl : left ≤ 64) (hw : wide ≤ 64) :
    Calls Try.prog 87 #[.string s, .int .i64 left, .int .i64 wide] w (FirstPost (H.first s.data.toList left wide) w) := by
  rcases V.rd_bad s.data.toList with h0 | h5 | h1
  · obtain ⟨h, k, hr⟩ : ∃ h k, V.rd s.data.toList = (h, k, 0) := ⟨_, _, by rw [← h0]⟩
    obtain ⟨k1, k2, _, k4, k5, _⟩ := V.rd_ok _ _ _ hr
    rw [len_data] at k2
    by_cases hf : H.fit h left = 0
    · unfold H.fit at hf
      by_cases hm : h / 2 = 0
      · rw [if_pos hm] at hf; omega
      rw [if_neg hm] at hf
      by_cases hp : h % 2 = 1
      · rw [if_pos hp] at hf
        by_cases hq : H.nb left < h / 2
        · rw [if_pos hq] at hf; omega
        · obtain ⟨m, rfl⟩ : ∃ m, h = 2 * m + 1 := ⟨h / 2, by omega⟩
          exact first_odd s left wide m k w hs hl hw (by omega) hl1 (by omega) k5 k2 hr
      · rw [if_neg hp] at hf
        by_cases hq : left < h / 2
        · rw [if_pos hq] at hf; omega
        · obtain ⟨m, rfl⟩ : ∃ m, h = 2 * m := ⟨h / 2, by omega⟩
          exact first_even s left wide m k w hs hl hw (by omega) (by omega) k5 k2 hr
    · exact first_fit s left wide h k _ w hs hl k4 hr rfl hf
  · exact first_rd s left wide 5 w hs (by omega) h5
  · exact first_rd s left wide 1 w hs (by omega) h1
end Go.Proofs.Ytpjmpbpbfjemdaa
