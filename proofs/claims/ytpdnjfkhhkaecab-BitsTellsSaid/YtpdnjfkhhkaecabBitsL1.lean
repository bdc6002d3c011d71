/- The laws BitsBack, BitsOnly. -/
import Derived.Test.YtpdnjfkhhkaecabBitsW5
namespace Go.Proofs.Ytpdnjfkhhkaecab
open Go.RowKit
set_option linter.unusedVariables false

/-- a list that was packed -/
theorem pack_ok (l : List Nat) (wide : Int) (h : (packR l wide).2 = 0) : ∃ n : Nat, wide = n ∧ n ≤ 64 ∧ l.length ≤ 64 ∧ (∀ x ∈ l, x < 2 ^ n) ∧ packR l wide = (B.le (B.sz (l.length * n)) (B.pk n l), 0) := by
  unfold packR at h ⊢
  by_cases h0 : wide < 0 ∨ 64 < wide
  · rw [if_pos h0] at h; simp at h
  rw [if_neg h0] at h ⊢
  by_cases h1 : 64 < l.length
  · rw [if_pos h1] at h; simp at h
  rw [if_neg h1] at h ⊢
  by_cases h2 : wide.toNat < B.wd l
  · rw [if_pos h2] at h; simp at h
  rw [if_neg h2]
  exact ⟨wide.toNat, by omega, by omega, by omega, (B.wd_le l _).1 (by omega), rfl⟩
theorem pack_bad (l : List Nat) (wide : Int) (h : (packR l wide).2 ≠ 0) : (packR l wide).1 = [] := by
  unfold packR at h ⊢
  by_cases h0 : wide < 0 ∨ 64 < wide
  · rw [if_pos h0]
  rw [if_neg h0] at h ⊢
  by_cases h1 : 64 < l.length
  · rw [if_pos h1]
  rw [if_neg h1] at h ⊢
  by_cases h2 : wide.toNat < B.wd l
  · rw [if_pos h2]
  rw [if_neg h2] at h; simp at h

theorem sz_pow (M : Nat) : 2 ^ M ≤ 256 ^ B.sz M := by
  rw [B.two8]; apply Nat.pow_le_pow_right (by omega); unfold B.sz; omega

theorem leN_pack (n : Nat) (l : List Nat) (h : ∀ x ∈ l, x < 2 ^ n) : B.leN (B.le (B.sz (l.length * n)) (B.pk n l)) = B.pk n l := by
  rw [B.leN_le]
  apply Nat.mod_eq_of_lt
  have := B.pk_lt n l h
  rw [Nat.mul_comm] at this
  exact Nat.lt_of_lt_of_le this (sz_pow _)

theorem unp_pack (n : Nat) (l : List Nat) (hn : n ≤ 64) (hl : l.length ≤ 64) (h : ∀ x ∈ l, x < 2 ^ n) :
    unpR (B.le (B.sz (l.length * n)) (B.pk n l)) l.length n = (l, 0) ∧ (∀ k : Nat, k < l.length → getR (B.le (B.sz (l.length * n)) (B.pk n l)) l.length n k = (l.getD k 0, 0)) := by
  have hlt := B.pk_lt n l h
  rw [Nat.mul_comm] at hlt
  have hck : chkR (B.le (B.sz (l.length * n)) (B.pk n l)) l.length n = 0 := by
    unfold chkR
    rw [if_neg (by omega), if_neg (by omega)]
    unfold chkF
    rw [if_neg]
    rw [Int.toNat_natCast, Int.toNat_natCast, B.le_length, leN_pack n l h, Nat.div_eq_of_lt hlt]
    simp
  constructor
  · rw [unpR, if_pos hck, leN_pack n l h, Int.toNat_natCast, Int.toNat_natCast, B.dg_pk n l h]
  · intro k hk
    rw [getR, if_pos hck, if_neg (by omega), leN_pack n l h, Int.toNat_natCast, Int.toNat_natCast, Nat.mul_comm k n]
    have := B.dg_get n l.length (B.pk n l) k hk
    rw [B.dg_pk n l h] at this
    rw [← this]

theorem pack_unp (l : List UInt8) (many wide : Int) (h : chkR l many wide = 0) :
    packR (B.dg wide.toNat many.toNat (B.leN l)) wide = (l, 0) ∧ ((B.dg wide.toNat many.toNat (B.leN l)).length : Int) = many := by
  obtain ⟨m, n, rfl, rfl, hm, hn, hl, hq⟩ := chk_zero _ _ _ h
  simp only [Int.toNat_natCast]
  have hdl := B.dg_length n m (B.leN l)
  refine ⟨?_, by rw [hdl]⟩
  unfold packR
  rw [if_neg (by omega), if_neg (by omega)]
  have hwd : B.wd (B.dg n m (B.leN l)) ≤ n := (B.wd_le _ _).2 (B.dg_lt n m (B.leN l))
  simp only [Int.toNat_natCast]
  rw [if_neg (by omega), hdl, B.pk_dg, ← hl]
  have hlt : B.leN l < 2 ^ (m * n) := by
    rcases Nat.div_eq_zero_iff.1 hq with h0 | h0
    · have := B.pos2 (m * n); omega
    · exact h0
  rw [Nat.mul_comm n m, Nat.mod_eq_of_lt hlt, B.le_leN]

set_option maxHeartbeats 1000000 in
set_option maxRecDepth 100000 in
theorem bitsOnly_walk (w : World) (s : ByteArray) (hs : s.size ≤ maxLen) (many : Int) (hm : -9223372036854775808 ≤ many ∧ many ≤ 9223372036854775807) (wide : Int) (hw : -9223372036854775808 ≤ wide ∧ wide ≤ 9223372036854775807) :
    Calls Try.prog 6 #[.string s, .int .i64 many, .int .i64 wide] w (BoolPost true w) := by
  have hun := fun w => unpack_any s many wide w hs
  by_cases hc : chkR s.data.toList many wide = 0
  · obtain ⟨hp1, hp2⟩ := pack_unp _ _ _ hc
    rw [unpR, if_pos hc] at hun
    have hlt := B.dg_lt wide.toNat many.toNat (B.leN s.data.toList)
    obtain ⟨m, n, hme, hne, hm64, hn64, _, _⟩ := chk_zero _ _ _ hc
    generalize B.dg wide.toNat many.toNat (B.leN s.data.toList) = xs at *
    have hx : ∀ x ∈ xs, x < 18446744073709551616 := fun x h => Nat.lt_of_lt_of_le (hlt x h) (by
      rw [hne, Int.toNat_natCast]
      exact Nat.le_trans (Nat.pow_le_pow_right (by omega) hn64) (by omega))
    have hpk := fun a c w hu => pack_any a c xs wide w hx hu
    rw [hp1] at hpk
    have HUN := Lib.hid hun
    have HPK := Lib.hid hpk
    have hq : ((xs.length : Int) == many) = true := by rw [hp2]; simp
    clear hun hpk hp1 hc hlt hx hme hne hp2
    go_enter Try.func6, Try.ntmps6
    go_wp2_with fail
    refine (HUN.out _).mono ?_
    rintro e w1 ⟨a, c, rfl, hn1, hb1⟩
    go_wp2_with fail
    refine (begun_any _).mono ?_
    rintro e w2 ⟨rfl, hb2⟩
    go_wp2_with fail
    refine (HPK.out a c _ (hn1.next hb2)).mono ?_
    rintro e w3 ⟨rfl, hb3⟩
    have heq : ((str s.data.toList).toList == s.toList) = true := by rw [str_toList, ByteArray.toList_eq]; simp
    go_wp2_with fail
    go_ret
    exact ⟨rfl, below_then (below_then hb1 hb2) hb3⟩
  · have hne : ((chkR s.data.toList many wide : Int) != 0) = true := by rw [bne_iff_ne]; omega
    rw [unpR, if_neg hc] at hun
    generalize chkR s.data.toList many wide = er at *
    have HUN := Lib.hid hun
    clear hun hc
    go_enter Try.func6, Try.ntmps6
    go_wp2_with fail
    refine (HUN.out _).mono ?_
    rintro e w1 ⟨a, c, rfl, hn1, hb1⟩
    go_wp2_with fail
    refine (begun_any _).mono ?_
    rintro e w2 ⟨rfl, hb2⟩
    go_wp2_with fail
    go_ret
    exact ⟨rfl, below_then hb1 hb2⟩

set_option maxHeartbeats 1000000 in
set_option maxRecDepth 100000 in
theorem bitsBack_walk (w : World) (a : Option Addr) (c : Nat) (l : List Nat) (hm : l.length ≤ maxLen) (hcap : l.length ≤ c ∧ c ≤ maxLen ∧ (a = none → c = 0)) (hx : ∀ x ∈ l, x < 18446744073709551616) (hu : Nums w w.heap.size a l)
    (wide : Int) (hw : -9223372036854775808 ≤ wide ∧ wide ≤ 9223372036854775807) (p : Int) (hp : -9223372036854775808 ≤ p ∧ p ≤ 9223372036854775807) :
    Calls Try.prog 5 #[.slice a l.length c, .int .i64 wide, .int .i64 p] w (BoolPost true w) := by
  unfold maxLen at hm
  have hpk := pack_any a c l wide w hx hu
  by_cases hc : (packR l wide).2 = 0
  · obtain ⟨n, rfl, hn, hl, hf, hr⟩ := pack_ok l wide hc
    obtain ⟨hun, hge⟩ := unp_pack n l hn hl hf
    rw [hr] at hpk
    generalize B.le (B.sz (l.length * n)) (B.pk n l) = t at *
    have hts : t.length ≤ maxLen := by
      have h1 : chkR t l.length n = 0 := by
        have : (unpR t l.length n).2 = 0 := by rw [hun]
        unfold unpR at this
        by_cases h : chkR t l.length n = 0
        · exact h
        · rw [if_neg h] at this; exact this
      obtain ⟨m', n', e1, e2, h1, h2, h3, _⟩ := chk_zero _ _ _ h1
      have := Nat.mul_le_mul h1 h2
      rw [h3]; unfold B.sz maxLen; omega
    have hunp := fun w => unpack_any (str t) l.length n w (by rw [str_size]; exact hts)
    rw [str_data, hun] at hunp
    have HPK := Lib.hid hpk
    have HUN := Lib.hid hunp
    clear hpk hunp hc hr hun hx
    have hsm := fun w a' c' B' h1 h2 => same_any a' a c' c l l w B' h1 h2 (by omega)
    rw [decide_eq_true rfl] at hsm
    have HSM := Lib.hid hsm
    clear hsm
    by_cases hp0 : p < 0
    · have g1 : decide (p < 0) = true := by simp; omega
      go_enter Try.func5, Try.ntmps5
      go_wp2_with fail
      refine (HPK.out).mono ?_
      rintro e w1 ⟨rfl, hb1⟩
      go_wp2_with fail
      refine (begun_any _).mono ?_
      rintro e w2 ⟨rfl, hb2⟩
      have h2 := below_then hb1 hb2
      go_wp2_with fail
      refine (HUN.out _).mono ?_
      rintro e w3 ⟨a3, c3, rfl, hn3, hb3⟩
      have h3 := below_then h2 hb3
      go_wp2_with fail
      refine (HSM.out _ a3 c3 _ hn3 (hu.next h3)).mono ?_
      rintro e w4 ⟨rfl, hb4⟩
      go_wp2_with fail
      go_ret
      exact ⟨rfl, below_then h3 hb4⟩
    obtain ⟨k, rfl⟩ : ∃ k : Nat, p = k := ⟨p.toNat, by omega⟩
    have g1 : decide ((k : Int) < 0) = false := by simp
    by_cases hk : l.length ≤ k
    · have g2 : decide (l.length ≤ k) = true := by simp; omega
      go_enter Try.func5, Try.ntmps5
      go_wp2_with fail
      refine (HPK.out).mono ?_
      rintro e w1 ⟨rfl, hb1⟩
      go_wp2_with fail
      refine (begun_any _).mono ?_
      rintro e w2 ⟨rfl, hb2⟩
      have h2 := below_then hb1 hb2
      go_wp2_with fail
      refine (HUN.out _).mono ?_
      rintro e w3 ⟨a3, c3, rfl, hn3, hb3⟩
      have h3 := below_then h2 hb3
      go_wp2_with fail
      refine (HSM.out _ a3 c3 _ hn3 (hu.next h3)).mono ?_
      rintro e w4 ⟨rfl, hb4⟩
      go_wp2_with fail
      go_ret
      exact ⟨rfl, below_then h3 hb4⟩
    · have g2 : decide (l.length ≤ k) = false := by simp; omega
      have hkl : k < l.length := by omega
      have hgt := fun w => get_any (str t) l.length n k w (by rw [str_size]; exact hts)
      rw [str_data, hge k hkl] at hgt
      have HGT := Lib.hid hgt
      clear hgt hge hts
      obtain ⟨b, off, rfl, hb, hcl⟩ := hu (by intro e; rw [e] at hkl; simp at hkl)
      have HCL := Lib.hid (hcl k hkl)
      clear hcl
      generalize l.getD k 0 = x at *
      go_enter Try.func5, Try.ntmps5
      go_wp2_with fail
      refine (HPK.out).mono ?_
      rintro e w1 ⟨rfl, hb1⟩
      go_wp2_with fail
      refine (begun_any _).mono ?_
      rintro e w2 ⟨rfl, hb2⟩
      have h2 := below_then hb1 hb2
      go_wp2_with fail
      refine (HUN.out _).mono ?_
      rintro e w3 ⟨a3, c3, rfl, hn3, hb3⟩
      have h3 := below_then h2 hb3
      go_wp2_with fail
      refine (HSM.out _ a3 c3 _ hn3 (hu.next h3)).mono ?_
      rintro e w4 ⟨rfl, hb4⟩
      have h4 := below_then h3 hb4
      go_wp2_with fail
      refine (HGT.out _).mono ?_
      rintro e w5 ⟨rfl, hb5⟩
      have h5 := below_then h4 hb5
      have hc5 : w5.cell? ⟨b, off + k, none⟩ = some (.int .u64 (x : Int)) := by
        rw [h5.cell (p := ⟨b, off + k, none⟩) hb]; exact HCL.out
      go_wp2_with fail
      go_ret
      exact ⟨rfl, h5⟩
  · have hne : (((packR l wide).2 : Int) != 0) = true := by rw [bne_iff_ne]; omega
    have hem := pack_bad l wide hc
    generalize packR l wide = r at *
    obtain ⟨t, er⟩ := r
    simp only at hem hne
    subst hem
    have HPK := Lib.hid hpk
    clear hpk hc
    go_enter Try.func5, Try.ntmps5
    go_wp2_with fail
    refine (HPK.out).mono ?_
    rintro e w1 ⟨rfl, hb1⟩
    go_wp2_with fail
    refine (begun_any _).mono ?_
    rintro e w2 ⟨rfl, hb2⟩
    go_wp2_with fail
    go_ret
    exact ⟨ret_bool (by rw [str_toList]; rfl), below_then hb1 hb2⟩
end Go.Proofs.Ytpdnjfkhhkaecab
