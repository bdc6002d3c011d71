/- The laws VaryOrder, VaryOnly, VaryCut, out of the contracts. -/
import Derived.Test.YtpdnjfkhhkaecaaVaryW4
namespace Go.Proofs.Ytpdnjfkhhkaecaa
open Go.RowKit
set_option linter.unusedVariables false

set_option maxHeartbeats 400000 in
set_option maxRecDepth 100000 in
theorem varyOrder_walk (w : World) (a : Nat) (ha : a < 18446744073709551616) (b : Nat) (hb : b < 18446744073709551616) :
    Calls Try.prog 7 #[.int .u64 a, .int .u64 b] w (BoolPost true w) := by
  go_enter Try.func7, Try.ntmps7
  go_wp2_with fail
  refine (begun_any _).mono ?_
  rintro e w1 ⟨rfl, hb1⟩
  go_wp2_with fail
  refine (write_any a _ ha).mono ?_
  rintro e w2 ⟨rfl, hb2⟩
  go_wp2_with fail
  refine (write_any b _ hb).mono ?_
  rintro e w3 ⟨rfl, hb3⟩
  go_wp2_with fail
  go_ret
  refine ⟨ret_bool ?_, below_then (below_then hb1 hb2) hb3⟩
  rw [str_toList, str_toList]
  by_cases h : a = b
  · subst h
    have := V.less_self (V.enc a) [] []
    rw [List.append_nil] at this
    rw [this]; simp [Op.bytesLess]
  · have := V.less_enc a b ha hb [] [] h
    rw [List.append_nil, List.append_nil] at this
    rw [this]; simp

set_option maxHeartbeats 400000 in
set_option maxRecDepth 100000 in
theorem varyOnly_walk (w : World) (s : ByteArray) (hs : s.size ≤ maxLen) :
    Calls Try.prog 6 #[.string s] w (BoolPost true w) := by
  have hms := hs
  unfold maxLen at hs
  have hrd := read_all s w hms
  rcases V.rd_bad s.data.toList with hz | hz | hz
  · obtain ⟨n, k, hnk⟩ : ∃ n k, V.rd s.data.toList = (n, k, 0) := ⟨_, _, by rw [← hz]⟩
    obtain ⟨k1, kr, hen, hn, k9, _⟩ := V.rd_ok _ _ _ hnk
    rw [len_data] at kr
    rw [hnk] at hrd
    have HE := Lib.hid hen
    have HRD := Lib.hid hrd
    clear hz hen hnk hrd
    go_enter Try.func6, Try.ntmps6
    go_wp2_with fail
    refine HRD.out.mono ?_
    rintro e w1 ⟨rfl, hb1⟩
    go_wp2_with fail
    refine (begun_any _).mono ?_
    rintro e w2 ⟨rfl, hb2⟩
    go_wp2_with fail
    have g1 : decide ((1 : Int) ≤ (k : Int)) = true := by simp; omega
    have g2 : decide (k ≤ s.size) = true := by simp; omega
    go_region_held3 (fun _ => True) (exact trivial) (first | (go_at_call 13; refine (write_any n _ hn).mono ?_; rintro e w3 ⟨rfl, hb3⟩))
    go_wp2_with fail
    go_ret
    refine ⟨ret_bool ?_, below_then (below_then hb1 hb2) ((Below.refl _ _).drew.trans hb3)⟩
    rw [str_toList, ByteArray.toList_eq, take_data, HE.out]
    simp
  all_goals
    rw [hz] at hrd
    have HRD := Lib.hid hrd
    clear hz hrd
    go_enter Try.func6, Try.ntmps6
    go_wp2_with fail
    refine HRD.out.mono ?_
    rintro e w1 ⟨rfl, hb1⟩
    go_wp2_with fail
    refine (begun_any _).mono ?_
    rintro e w2 ⟨rfl, hb2⟩
    go_wp2_with fail
    go_ret
    exact ⟨rfl, below_then hb1 hb2⟩

set_option maxHeartbeats 400000 in
set_option maxRecDepth 100000 in
theorem varyCut_walk (w : World) (n : Nat) (hn : n < 18446744073709551616) (k : Int) (hk : -9223372036854775808 ≤ k ∧ k ≤ 9223372036854775807) :
    Calls Try.prog 9 #[.int .u64 n, .int .i64 k] w (BoolPost true w) := by
  have hsz : (str (V.enc n)).size = V.sz n := by rw [str_size, V.enc_length]
  have h9 := V.sz_le n
  have h1 := V.sz_ge n
  have HSZ := Lib.hid hsz
  obtain ⟨t, ht⟩ : ∃ t, t = str (V.enc n) := ⟨_, rfl⟩
  have hw := fun w => write_any n w hn
  unfold WritePost at hw
  rw [← ht] at hsz hw
  have HT := Lib.hid ht
  have HW := Lib.hid hw
  clear ht hw
  have hts : t.size ≤ 9 ∧ 1 ≤ t.size := by omega
  have HZ := Lib.hid hsz
  clear hsz
  by_cases h0 : k < 0
  · go_enter Try.func9, Try.ntmps9
    go_wp2_with fail
    refine (HW.out _).mono ?_
    rintro e w1 ⟨rfl, hb1⟩
    go_wp2_with fail
    refine (begun_any _).mono ?_
    rintro e w2 ⟨rfl, hb2⟩
    go_wp2_with fail
    go_ret
    exact ⟨rfl, below_then hb1 hb2⟩
  obtain ⟨j, rfl⟩ : ∃ j : Nat, k = j := ⟨k.toNat, by omega⟩
  by_cases hj : t.size ≤ j
  · go_enter Try.func9, Try.ntmps9
    go_wp2_with fail
    refine (HW.out _).mono ?_
    rintro e w1 ⟨rfl, hb1⟩
    go_wp2_with fail
    refine (begun_any _).mono ?_
    rintro e w2 ⟨rfl, hb2⟩
    go_wp2_with fail
    go_ret
    exact ⟨rfl, below_then hb1 hb2⟩
  · have hcut : ∀ w, Calls Try.prog 10 #[.string (t.extract 0 j)] w (ReadPost (0, 0, 5) w) := by
      intro w
      have e : V.rd (t.extract 0 j).data.toList = (0, 0, 5) := by
        rw [take_data, HT.out, str_data, V.rd_cut n j hn (by rw [HZ.out] at hj; omega)]
      rw [← e]
      exact read_all (t.extract 0 j) w (by unfold maxLen; simp; omega)
    have HC := Lib.hid hcut
    clear hcut
    go_enter Try.func9, Try.ntmps9
    go_wp2_with fail
    refine (HW.out _).mono ?_
    rintro e w1 ⟨rfl, hb1⟩
    go_wp2_with fail
    refine (begun_any _).mono ?_
    rintro e w2 ⟨rfl, hb2⟩
    go_wp2_with fail
    refine (HC.out _).mono ?_
    rintro e w3 ⟨rfl, hb3⟩
    go_wp2_with fail
    go_ret
    exact ⟨rfl, below_then (below_then hb1 hb2) hb3⟩
end Go.Proofs.Ytpdnjfkhhkaecaa
