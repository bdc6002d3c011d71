/- The law BitsReads. -/
import Derived.Test.YtpdnjfkhhkaecabBitsW7
namespace Go.Proofs.Ytpdnjfkhhkaecab
open Go.RowKit
set_option linter.unusedVariables false

theorem unpackOf_any (s : ByteArray) (many wide : Int) (w : World) (hs : s.size ≤ maxLen) :
    Calls Try.prog 16 #[.string s, .int .i64 many, .int .i64 wide] w (AllPost (unpR s.data.toList many wide) w) := by
  unfold unpR chkR
  by_cases h0 : wide < 0 ∨ 64 < wide ∨ many < 0
  · rw [if_pos h0, if_neg (by omega)]; exact unpackOf_range s many wide w h0
  obtain ⟨n, rfl⟩ : ∃ n : Nat, wide = n := ⟨wide.toNat, by omega⟩
  rw [if_neg h0]
  by_cases h1 : 64 < many
  · rw [if_pos h1, if_neg (by omega)]; exact unpackOf_many s many n w (by omega) h1
  obtain ⟨m, rfl⟩ : ∃ m : Nat, many = m := ⟨many.toNat, by omega⟩
  rw [if_neg h1, Int.toNat_natCast, Int.toNat_natCast]
  unfold chkF
  rw [len_data]
  by_cases h2 : s.size = B.sz (m * n)
  · have h := unpackOf_in s m n w (by omega) (by omega) h2
    by_cases h3 : B.leN s.data.toList / 2 ^ (m * n) = 0
    · rw [if_pos h3] at h
      have e : (if s.size ≠ B.sz (m * n) ∨ B.leN s.data.toList / 2 ^ (m * n) ≠ 0 then 1 else 0) = 0 := if_neg (by rintro (x | x); exact x h2; exact x h3)
      rw [e, if_pos rfl]; exact h
    · rw [if_neg h3] at h
      rw [if_pos (Or.inr h3), if_neg (by omega)]; exact h
  · rw [if_pos (Or.inl h2), if_neg (by omega)]
    exact unpackOf_form s m n w (by omega) (by omega) hs h2

set_option maxHeartbeats 1000000 in
set_option maxRecDepth 100000 in
theorem bitsReads_walk (w : World) (s : ByteArray) (hs : s.size ≤ maxLen) (many : Int) (hm : -9223372036854775808 ≤ many ∧ many ≤ 9223372036854775807) (wide : Int) (hw : -9223372036854775808 ≤ wide ∧ wide ≤ 9223372036854775807)
    (p : Int) (hp : -9223372036854775808 ≤ p ∧ p ≤ 9223372036854775807) :
    Calls Try.prog 4 #[.string s, .int .i64 many, .int .i64 wide, .int .i64 p] w (BoolPost true w) := by
  have hun := fun w => unpack_any s many wide w hs
  have huo := fun w => unpackOf_any s many wide w hs
  have hgt := fun w => get_any s many wide p w hs
  have hsm := fun a a' c c' xs (hx : List.length xs ≤ 64) w B' h1 h2 => same_any a a' c c' xs xs w B' h1 h2 (by omega)
  simp only [decide_true] at hsm
  have HSM := Lib.hid hsm
  clear hsm
  by_cases hc : chkR s.data.toList many wide = 0
  · obtain ⟨m, n, rfl, rfl, hm64, hn64, _, _⟩ := chk_zero _ _ _ hc
    rw [unpR, if_pos hc] at hun huo
    simp only [Int.toNat_natCast] at hun huo
    have hln := B.dg_length n m (B.leN s.data.toList)
    rw [getR, if_pos hc] at hgt
    have hdg := fun k hk => B.dg_get n m (B.leN s.data.toList) k hk
    by_cases h0 : p < 0 ∨ (m : Int) ≤ p
    · rw [if_pos h0] at hgt
      generalize B.dg n m (B.leN s.data.toList) = xs at *
      have HSM2 := Lib.hid (fun a a' c c' w B' h1 h2 => HSM.out a a' c c' xs (by omega) w B' h1 h2)
      have HUN := Lib.hid hun
      have HUO := Lib.hid huo
      have HGT := Lib.hid hgt
      clear hun huo hgt hc hln hdg
      have hguard : (decide (p < 0) = true) ∨ (decide (p < 0) = false ∧ decide ((m : Int) ≤ p) = true) := by simp; omega
      rcases hguard with g1 | ⟨g1, g2⟩
      all_goals
        clear h0
        go_enter Try.func4, Try.ntmps4
        go_wp2_with fail
        refine (HUN.out _).mono ?_
        rintro e w1 ⟨a1, c1, rfl, hn1, hb1⟩
        go_wp2_with fail
        refine (HGT.out _).mono ?_
        rintro e w2 ⟨rfl, hb2⟩
        go_wp2_with fail
        refine (HUO.out _).mono ?_
        rintro e w3 ⟨a3, c3, rfl, hn3, hb3⟩
        have h13 := below_then hb2 hb3
        go_wp2_with fail
        refine (begun_any _).mono ?_
        rintro e w4 ⟨rfl, hb4⟩
        go_wp2_with fail
        refine (HSM2.out a1 a3 c1 c3 _ _ (hn1.next (below_then h13 hb4)) (hn3.next hb4)).mono ?_
        rintro e w5 ⟨rfl, hb5⟩
        go_wp2_with fail
        go_ret
        exact ⟨rfl, below_then (below_then (below_then hb1 h13) hb4) hb5⟩
    · rw [if_neg h0] at hgt
      obtain ⟨k, rfl⟩ : ∃ k : Nat, p = k := ⟨p.toNat, by omega⟩
      have hk : k < m := by omega
      simp only [Int.toNat_natCast] at hgt
      rw [Nat.mul_comm k n, ← hdg k hk] at hgt
      generalize B.dg n m (B.leN s.data.toList) = xs at *
      have HSM2 := Lib.hid (fun a a' c c' w B' h1 h2 => HSM.out a a' c c' xs (by omega) w B' h1 h2)
      have HUN := Lib.hid hun
      have HUO := Lib.hid huo
      have hkl : k < xs.length := by omega
      have hne : xs ≠ [] := by intro e; rw [e] at hkl; simp at hkl
      have HNE := Lib.hid hne
      have g1 : decide ((k : Int) < 0) = false := by simp
      have g2 : decide (m ≤ k) = false := by simp; omega
      generalize hy : xs.getD k 0 = y at *
      have HY := Lib.hid hy
      have HGT := Lib.hid hgt
      clear hun huo hgt hc hdg h0 hy hne hln
      go_enter Try.func4, Try.ntmps4
      go_wp2_with fail
      refine (HUN.out _).mono ?_
      rintro e w1 ⟨a1, c1, rfl, hn1, hb1⟩
      go_wp2_with fail
      refine (HGT.out _).mono ?_
      rintro e w2 ⟨rfl, hb2⟩
      go_wp2_with fail
      refine (HUO.out _).mono ?_
      rintro e w3 ⟨a3, c3, rfl, hn3, hb3⟩
      have h13 := below_then hb2 hb3
      obtain ⟨b, off, rfl, hbl, hcl⟩ := hn3 HNE.out
      have hcell := hcl k hkl
      rw [HY.out] at hcell
      have hn3 : Nums w3 w3.heap.size (some ⟨b, off, none⟩) xs := fun _ => ⟨b, off, rfl, hbl, hcl⟩
      clear hcl
      go_wp2_with fail
      refine (begun_any _).mono ?_
      rintro e w4 ⟨rfl, hb4⟩
      go_wp2_with fail
      refine (HSM2.out a1 _ c1 c3 _ _ (hn1.next (below_then h13 hb4)) (hn3.next hb4)).mono ?_
      rintro e w5 ⟨rfl, hb5⟩
      go_wp2_with fail
      go_ret
      exact ⟨rfl, below_then (below_then (below_then hb1 h13) hb4) hb5⟩
  · rw [unpR, if_neg hc] at hun huo
    rw [getR, if_neg hc] at hgt
    have g1 : ((chkR s.data.toList many wide : Int) == 0) = false := by rw [beq_eq_false_iff_ne]; omega
    generalize chkR s.data.toList many wide = er at *
    have HSM2 := Lib.hid (fun a a' c c' w B' h1 h2 => HSM.out a a' c c' [] (by simp) w B' h1 h2)
    have HUN := Lib.hid hun
    have HUO := Lib.hid huo
    have HGT := Lib.hid hgt
    clear hun huo hgt hc
    go_enter Try.func4, Try.ntmps4
    go_wp2_with fail
    refine (HUN.out _).mono ?_
    rintro e w1 ⟨a1, c1, rfl, hn1, hb1⟩
    go_wp2_with fail
    refine (HGT.out _).mono ?_
    rintro e w2 ⟨rfl, hb2⟩
    go_wp2_with fail
    refine (HUO.out _).mono ?_
    rintro e w3 ⟨a3, c3, rfl, hn3, hb3⟩
    have h13 := below_then hb2 hb3
    go_wp2_with fail
    refine (begun_any _).mono ?_
    rintro e w4 ⟨rfl, hb4⟩
    go_wp2_with fail
    refine (HSM2.out a1 a3 c1 c3 _ _ (hn1.next (below_then h13 hb4)) (hn3.next hb4)).mono ?_
    rintro e w5 ⟨rfl, hb5⟩
    go_wp2_with fail
    go_ret
    exact ⟨rfl, below_then (below_then (below_then hb1 h13) hb4) hb5⟩
end Go.Proofs.Ytpdnjfkhhkaecab
