/- The walk of hybrid.first: a run. -/
import Derived.Test.YtpjmpbpbfjemdaaHW8
namespace Go.Proofs.Ytpjmpbpbfjemdaa
open Go.RowKit
set_option linter.unusedVariables false

theorem ext_data (s : ByteArray) (a b : Nat) : (s.extract a b).data.toList = (s.data.toList.drop a).take (b - a) := by
  rw [Lib.extract_data]

theorem dg_one (w : Nat) (X : Nat) : B.dg w 1 X = [X % 2 ^ w] := by simp [B.dg]

set_option maxHeartbeats 400000 in
set_option maxRecDepth 100000 in
theorem first_even (s : ByteArray) (left wide m k : Nat) (w : World) (hs : s.size ≤ maxLen) (hl : left ≤ 64) (hw : wide ≤ 64) (hm1 : 1 ≤ m) (hm2 : m ≤ left) (hk : k ≤ 9) (hks : k ≤ s.size) (hr : V.rd s.data.toList = (2 * m, k, 0)) :
    Calls Try.prog 87 #[.string s, .int .i64 left, .int .i64 wide] w (FirstPost (H.first s.data.toList left wide) w) := by
  have hheld : H.held (2 * m) = 1 := by unfold H.held; rw [if_neg (by omega)]
  have hfit : H.fit (2 * m) left = 0 := by unfold H.fit; rw [if_neg (by omega), if_neg (show ¬ (2 * m) % 2 = 1 by omega), if_neg (by omega)]
  have hfl := first_ok s.data.toList left wide _ _ hr
  unfold H.firstL at hfl
  rw [if_neg (by simp [hfit]), hheld, len_data, Nat.one_mul] at hfl
  obtain ⟨Z, hZ⟩ : ∃ Z, Z = B.sz wide := ⟨_, rfl⟩
  obtain ⟨E, hE⟩ : ∃ E, E = k + Z := ⟨_, rfl⟩
  rw [← hZ, ← hE] at hfl
  have hz8 : Z ≤ 8 := by rw [hZ]; unfold B.sz; omega
  have hsz := hs
  unfold maxLen at hsz
  have hv := fun w => vread_any s w hs
  rw [hr] at hv
  have HV := Lib.hid hv
  have hft := fun w => hfit_any (2 * m) left w (by omega) hl
  rw [hfit] at hft
  have HFT := Lib.hid hft
  have hq1 : (((2 * m : Nat) : Int) / 2) = (m : Int) := by omega
  have hq2 : IntKind.i64.wrap (m : Int) = (m : Int) := by rw [IntKind.wrap_i64]; omega
  have g1 : (((2 * m : Nat) : Int) % 2 == 1) = false := by rw [beq_eq_false_iff_ne]; omega
  have g2 : (((2 * m : Nat) : Int) % 2 == 0) = true := by rw [beq_iff_eq]; omega
  have hq3 : (((wide : Int) + 7) / 8) = (Z : Int) := by rw [hZ]; unfold B.sz; omega
  have hq4 : ((k : Int) + (Z : Int)) = (E : Int) := by omega
  have HKE := Lib.hid hE
  have hEb : k ≤ E ∧ E ≤ 17 := by omega
  have hH : ∃ h : Nat, h = 2 * m := ⟨_, rfl⟩
  obtain ⟨h, hh⟩ := hH
  rw [← hh] at hq1 g1 g2 HV HFT
  have hheld2 : H.held h = 1 := by rw [hh]; exact hheld
  have hhm : h / 2 = m ∧ h % 2 = 0 := by omega
  rw [← hh] at hfl
  clear hv hr hft hfit hheld hE hh
  by_cases hlen : s.size < E
  · have HF := Lib.hid (show (H.first s.data.toList left wide).1 = 5 by rw [hfl, if_pos hlen])
    generalize H.first s.data.toList left wide = r at *
    clear hfl hZ
    go_enter Try.func87, Try.ntmps87
    go_wp2_with fail
    refine (HV.out _).mono ?_
    rintro e1 w1 ⟨rfl, hb⟩
    go_wp2_with fail
    refine (HFT.out _).mono ?_
    rintro e1 w2 ⟨rfl, rfl⟩
    go_wp2_with fail
    go_ret3
    exact FirstPost.bad (er := 5) hb HF.out (by omega)
  · rw [if_neg hlen] at hfl
    obtain ⟨d, hd⟩ : ∃ d, d = (s.data.toList.drop k).take Z := ⟨_, rfl⟩
    have hdx : (s.extract k E).data.toList = d := by rw [ext_data, hd, show E - k = Z by have := HKE.out; omega]
    have hdl : d.length = B.sz (1 * wide) := by rw [hd, List.length_take, List.length_drop, len_data, Nat.one_mul, ← hZ]; have := HKE.out; omega
    have hun : ∀ w, Calls Try.prog 80 #[.string (s.extract k E), .int .i64 1, .int .i64 wide] w (AllPostC (if B.leN d / 2 ^ wide ≠ 0 then ([], 1) else (B.dg wide 1 (B.leN d), 0)) w) := fun w => by
      have := unpackc_any (s.extract k E) ((1 : Nat) : Int) wide w (by simp; omega)
      rw [hdx, unpR_eq d 1 wide (by omega) hw hdl, Nat.one_mul] at this
      exact this
    rw [← hd] at hfl
    unfold H.body at hfl
    rw [hheld2, if_pos hhm.2, hhm.1, Nat.one_mul, dg_one] at hfl
    rw [dg_one] at hun
    simp only [List.headD_cons] at hfl
    have hx0 : B.leN d % 2 ^ wide < 18446744073709551616 := Nat.lt_of_lt_of_le (Nat.mod_lt _ (B.pos2 wide)) (Nat.pow_le_pow_right (n := 2) (by omega) hw)
    clear hhm hheld2 hdl hdx hd
    have hEs : (E : Int) ≤ (s.size : Int) := by omega
    have hkE : (k : Int) ≤ (E : Int) := by omega
    by_cases hbad : B.leN d / 2 ^ wide ≠ 0
    · rw [if_pos hbad] at hun hfl
      have HF := Lib.hid (show (H.first s.data.toList left wide).1 = 1 by rw [hfl])
      have HUN := Lib.hid hun
      generalize H.first s.data.toList left wide = r at *
      clear hfl hun hbad hx0 hZ
      go_enter Try.func87, Try.ntmps87
      go_wp2_with fail
      refine (HV.out _).mono ?_
      rintro e1 w1 ⟨rfl, hb⟩
      go_wp2_with fail
      refine (HFT.out _).mono ?_
      rintro e1 w2 ⟨rfl, rfl⟩
      go_wp2_with fail
      refine (HUN.out _).mono ?_
      rintro e1 w3 ⟨a, c, rfl, hnum, hlc, hcm, hb3⟩
      go_wp2_with fail
      go_ret3
      exact FirstPost.bad (er := 1) (below_then hb hb3) HF.out (by omega)
    · rw [if_neg hbad] at hun hfl
      generalize B.leN d % 2 ^ wide = x at *
      have HF := Lib.hid hfl
      have HUN := Lib.hid hun
      generalize H.first s.data.toList left wide = r at *
      clear hfl hun hbad hZ
      go_enter Try.func87, Try.ntmps87
      go_wp2_with fail
      refine (HV.out _).mono ?_
      rintro e1 w1 ⟨rfl, hb⟩
      go_wp2_with fail
      refine (HFT.out _).mono ?_
      rintro e1 w2 ⟨rfl, rfl⟩
      go_wp2_with fail
      refine (HUN.out _).mono ?_
      rintro e1 w3 ⟨a, c, rfl, hnum, hlc, hcm, hb3⟩
      obtain ⟨b, off, rfl, hbl, hcell⟩ := hnum (by simp)
      have c0 := hcell 0 (by simp)
      simp only [List.getD_cons_zero, Nat.add_zero] at c0
      clear hcell hnum
      go_wp2_with fail
      go_ret3
      exact FirstPost.good (below_then hb hb3) HF.out rfl
end Go.Proofs.Ytpjmpbpbfjemdaa
