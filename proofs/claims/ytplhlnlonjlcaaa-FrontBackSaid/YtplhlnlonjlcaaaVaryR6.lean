/- The walks of the reference: varyLen, VaryOf. -/
import Derived.Test.YtplhlnlonjlcaaaVaryR5
namespace Go.Proofs.Ytplhlnlonjlcaaa
open Go.RowKit
set_option linter.unusedVariables false

def LenRel (c k b : Nat) : Prop := b = (c - V.ld k) * 2 ^ (k - 1) ∧ V.ld k ≤ c

theorem len_on (c k b : Nat) (hc : c < 256) (h1 : 1 ≤ k) (h8 : k ≤ 8) (hr : LenRel c k b) (hb : 128 ≤ b) : LenRel c (k + 1) ((b - 128) * 2) := by
  unfold LenRel at *
  have : k = 1 ∨ k = 2 ∨ k = 3 ∨ k = 4 ∨ k = 5 ∨ k = 6 ∨ k = 7 ∨ k = 8 := by omega
  rcases this with rfl | rfl | rfl | rfl | rfl | rfl | rfl | rfl <;> simp only [V.ld, Nat.reduceSub, Nat.reducePow, Nat.reduceAdd] at hr ⊢ <;> omega
theorem len_end (c k b : Nat) (hc : c < 256) (h1 : 1 ≤ k) (h8 : k ≤ 8) (hr : LenRel c k b) (hb : b < 128) : V.kl c = k := by
  unfold LenRel at *
  have hs := V.kl_spec c hc
  have : k = 1 ∨ k = 2 ∨ k = 3 ∨ k = 4 ∨ k = 5 ∨ k = 6 ∨ k = 7 ∨ k = 8 := by omega
  rcases this with rfl | rfl | rfl | rfl | rfl | rfl | rfl | rfl <;> simp only [V.ld, Nat.reduceSub, Nat.reducePow] at hr <;> omega
theorem len_nine (c b : Nat) (hc : c < 256) (hr : LenRel c 9 b) : V.kl c = 9 := by
  unfold LenRel at *
  have hs := V.kl_spec c hc
  simp only [V.ld, Nat.reduceSub, Nat.reducePow] at hr
  omega
theorem len_bd (c k b : Nat) (hc : c < 256) (h1 : 1 ≤ k) (h9 : k ≤ 9) (hr : LenRel c k b) : b ≤ 65536 := by
  unfold LenRel at *
  rcases nine h1 h9 with rfl | rfl | rfl | rfl | rfl | rfl | rfl | rfl | rfl <;> simp only [V.ld, Nat.reduceSub, Nat.reducePow] at hr <;> omega

set_option maxHeartbeats 400000 in
theorem vlen_any (c : Nat) (w : World) (hc : c < 256) :
    Calls Try.prog 31 #[.int .i64 c] w fun e w' => e = .returned (.int .i64 (V.kl c)) ∧ w = w' := by
  go_enter Try.func31, Try.ntmps31
  go_wp2_with fail
  go_loop [0, 3] (fun m i => ∃ k b : Nat, 1 ≤ k ∧ k ≤ 9 ∧ LenRel c k b ∧ m = .int .i64 b ∧ i = .int .i64 k) (fun _ i => 10 - (intOf i).toNat)
  case atStart => exact ⟨1, c, by omega, by omega, ⟨by simp [V.ld], by simp [V.ld]⟩, rfl, rfl⟩
  case round =>
    obtain ⟨k, b, h1, h9, hr, rfl, rfl⟩ := hrel
    have hbd := len_bd c k b hc h1 h9 hr
    by_cases h8 : k ≤ 8
    · have g1 : decide ((k : Int) ≤ 8) = true := by simp; omega
      by_cases hb : 128 ≤ b
      · have hr' := len_on c k b hc h1 h8 hr hb
        have g2 : decide ((128 : Int) ≤ (b : Int)) = true := by simp; omega
        go_wp2_with fail
        refine ⟨⟨k + 1, (b - 128) * 2, by omega, by omega, hr', ?_, by go_num⟩, by simp [intOf]; omega⟩
        congr 1; omega
      · have HK := Lib.hid (len_end c k b hc h1 h8 hr (by omega))
        have g2 : decide ((128 : Int) ≤ (b : Int)) = false := by simp; omega
        go_wp2_with fail
        go_ret
        exact ⟨by rw [HK.out]; rfl, rfl⟩
    · obtain rfl : k = 9 := by omega
      have HK := Lib.hid (len_nine c b hc hr)
      go_wp2_with fail
      go_ret
      exact ⟨by rw [HK.out]; rfl, rfl⟩

theorem val_acc (s : ByteArray) (h0 : 0 < s.size) (h : V.kl s[0].toNat ≤ s.size) :
    V.val (s.data.toList.take (V.kl s[0].toNat)) = acc s[0].toNat (V.kl s[0].toNat) (s.data.toList.drop 1) (V.kl s[0].toNat - 1) + V.ld (V.kl s[0].toNat) * 256 ^ (V.kl s[0].toNat - 1) := by
  obtain ⟨l, hl⟩ := head_cons s h0
  have hsz : (s[0] :: l).length = s.size := by rw [← hl]; exact len_data s
  rw [hl]
  obtain ⟨f1, f2, f3, f4⟩ := V.rd_facts s[0] l (by omega)
  simp only [List.drop_succ_cons, List.drop_zero, acc]
  omega

theorem acc_sum (s : ByteArray) (h0 : 0 < s.size) (h : V.kl s[0].toNat ≤ s.size) (h9 : V.kl s[0].toNat < 9) :
    acc s[0].toNat (V.kl s[0].toNat) (s.data.toList.drop 1) (V.kl s[0].toNat - 1) + V.ld (V.kl s[0].toNat) * 256 ^ (V.kl s[0].toNat - 1) < 18446744073709551616 := by
  rw [← val_acc s h0 h]
  refine Nat.lt_of_lt_of_le (V.val_lt _) ?_
  have : 256 ^ (s.data.toList.take (V.kl s[0].toNat)).length ≤ 256 ^ 8 := Nat.pow_le_pow_right (by omega) (by rw [List.length_take]; omega)
  omega

theorem enc_cmp (s : ByteArray) (h0 : 0 < s.size) (h : V.kl s[0].toNat ≤ s.size) (A : Nat) (hA : acc s[0].toNat (V.kl s[0].toNat) (s.data.toList.drop 1) (V.kl s[0].toNat - 1) = A) :
    (V.sz A < V.kl s[0].toNat → V.enc A ≠ s.data.toList.take (V.kl s[0].toNat)) ∧ (¬ V.sz A < V.kl s[0].toNat → V.enc A = s.data.toList.take (V.kl s[0].toNat)) := by
  obtain ⟨_, hr⟩ := rd_long s h0 h
  rw [hA] at hr
  constructor
  · intro hz e
    have h1 := congrArg List.length e
    rw [V.enc_length, List.length_take, len_data] at h1
    omega
  · intro hz
    rw [if_neg hz] at hr
    exact (V.rd_ok _ _ _ hr).2.2.1

theorem pow_bd (k : Nat) (h1 : 1 ≤ k) (h8 : k ≤ 8) (j : Nat) (hj : j ≤ k - 1) : V.ld k * 256 ^ j < 18446744073709551616 := by
  have a : V.ld k ≤ 255 := by
    rcases nine h1 (by omega) with rfl | rfl | rfl | rfl | rfl | rfl | rfl | rfl | rfl <;> decide
  have b : 256 ^ j ≤ 256 ^ 7 := Nat.pow_le_pow_right (by omega) (by omega)
  have c : V.ld k * 256 ^ j ≤ 255 * 256 ^ 7 := Nat.mul_le_mul a b
  omega

def valM (s : ByteArray) (i : Nat) : Nat := V.val (s.data.toList.take i) % 18446744073709551616

theorem valM_step (s : ByteArray) (i : Nat) (hi : i < s.size) : valM s (i + 1) = (valM s i * 256 + s[i].toNat) % 18446744073709551616 := by
  have hl : i < s.data.toList.length := by rw [len_data]; exact hi
  have e : s.data.toList.take (i + 1) = s.data.toList.take i ++ [s[i]] := by
    rw [List.take_succ_eq_append_getElem hl]; rfl
  unfold valM
  rw [e, V.val_snoc]
  omega

set_option maxHeartbeats 400000 in
theorem vof_empty (s : ByteArray) (w : World) (h : s.size = 0) :
    Calls Try.prog 25 #[.string s] w (ReadPost (0, 0, 5) w) := by
  go_enter Try.func25, Try.ntmps25
  go_wp2_with fail
  go_ret3
  exact ⟨rfl, Below.refl _ _⟩

set_option maxHeartbeats 1000000 in
theorem vof_any (s : ByteArray) (w : World) (hs : s.size ≤ maxLen) (h0 : 0 < s.size) :
    Calls Try.prog 25 #[.string s] w (ReadPost (V.rd s.data.toList) w) := by
  unfold maxLen at hs
  have hc := s[0].toNat_lt
  obtain ⟨k1, k9, kld, kb, _⟩ := V.kl_bounds s[0].toNat hc
  have hvl := fun w => vlen_any s[0].toNat w hc
  have hrd := fun x => rd_short s h0 x
  have hrl := fun x => rd_long s h0 x
  have hva := fun x => val_acc s h0 x
  have hcp := fun x => enc_cmp s h0 x
  have has := fun x y => acc_sum s h0 x y
  generalize hk : V.kl s[0].toNat = k at *
  have HVA := Lib.hid hva
  have HCP := Lib.hid hcp
  have HAS := Lib.hid has
  clear hva hcp has
  have HRD := Lib.hid hrd
  have HRL := Lib.hid hrl
  have HVL := Lib.hid hvl
  clear hrd hrl hvl hk kb kld
  have hsz0 : ((s.size : Int) == 0) = false := by rw [beq_eq_false_iff_ne]; omega
  go_enter Try.func25, Try.ntmps25
  go_wp2_with fail
  refine (HVL.out _).mono ?_
  rintro e w' ⟨rfl, rfl⟩
  by_cases hlen : s.size < k
  · go_wp2_with fail
    go_ret3
    exact ⟨by rw [HRD.out hlen]; rfl, Below.refl _ _⟩
  · go_wp2_with fail
    go_loop [6, 7] (fun m i => ∃ j : Nat, j ≤ k ∧ m = .int .u64 (valM s j) ∧ i = .int .i64 j) (fun _ i => k - (intOf i).toNat)
    case atStart => exact ⟨0, by omega, by simp [valM, V.val], rfl⟩
    case round =>
      obtain ⟨j, hj, rfl, rfl⟩ := hrel
      by_cases hlt : j < k
      · have HS := Lib.hid (valM_step s j (by omega))
        have hm : valM s j < 18446744073709551616 := Nat.mod_lt _ (by omega)
        have hx := s[j].toNat_lt
        have hw8 : IntKind.u64.wrap (s[j].toNat : Int) = (s[j].toNat : Int) := by rw [IntKind.wrap_u64]; omega
        generalize valM s j = M at *
        go_wp2_with fail
        refine ⟨⟨j + 1, by omega, ?_, by go_num⟩, by simp [intOf]; omega⟩
        rw [HS.out, IntKind.wrap_u64, IntKind.wrap_u64]
        congr 1; omega
      · obtain rfl : j = k := by omega
        have hkI : (j : Int) ≤ (s.size : Int) := by omega
        obtain ⟨hal, hrd⟩ := HRL.out (by omega)
        have hva := HVA.out (by omega)
        have hcp := fun A => HCP.out (by omega) A
        have hone : valM s j = V.val (s.data.toList.take j) % 18446744073709551616 := rfl
        have has := fun y => HAS.out (by omega) y
        generalize acc s[0].toNat j (s.data.toList.drop 1) (j - 1) = A at *
        have hcm := hcp A rfl
        clear hcp
        rw [hva] at hone
        clear hva
        obtain ⟨t, ht⟩ : ∃ t, t = str (V.enc A) := ⟨_, rfl⟩
        have hvb := fun w => vbytes_any A w hal
        unfold TextPost at hvb
        rw [← ht] at hvb
        have HB := Lib.hid hvb
        have HT := Lib.hid ht
        have HR := Lib.hid hrd
        clear hrd hvb ht
        by_cases h9 : j < 9
        · have hld0 : V.ld j * 256 ^ (j - 1) < 18446744073709551616 := pow_bd j k1 (by omega) (j - 1) (by omega)
          have hAs : A + V.ld j * 256 ^ (j - 1) < 18446744073709551616 := has h9
          have hm : valM s j = A + V.ld j * 256 ^ (j - 1) := by rw [hone]; exact Nat.mod_eq_of_lt hAs
          rw [hm]
          have hle : V.ld j * 256 ^ (j - 1) ≤ A + V.ld j * 256 ^ (j - 1) := by omega
          clear hm hone has
          generalize hN : A + V.ld j * 256 ^ (j - 1) = N at *
          have HN := Lib.hid hN
          clear hN
          go_wp2_with fail
          go_loop [8, 9] (fun o i => ∃ q : Nat, q ≤ j - 1 ∧ o = .int .u64 (V.ld (q + 1)) ∧ i = .int .i64 q) (fun _ i => j - (intOf i).toNat)
          case atStart => exact ⟨0, by omega, rfl, rfl⟩
          case round =>
            obtain ⟨q, hq, rfl, rfl⟩ := hrel
            by_cases hlt2 : q < j - 1
            · have HLD := Lib.hid (ld_step (q + 1) (by omega) (by omega))
              have hld : V.ld (q + 1) ≤ 256 := Nat.sub_le _ _
              generalize V.ld (q + 1) = d at *
              go_wp2_with fail
              refine ⟨⟨q + 1, by omega, by rw [HLD.out]; simp, by go_num⟩, by simp [intOf]; omega⟩
            · obtain rfl : q = j - 1 := by omega
              have hqj : j - 1 + 1 = j := by omega
              rw [hqj]
              clear hqj
              go_wp2_with fail
              go_loop [8, 10] (fun o i => ∃ p : Nat, 1 ≤ p ∧ p ≤ j ∧ o = .int .u64 (V.ld j * 256 ^ (p - 1) : Nat) ∧ i = .int .i64 p) (fun _ i => j - (intOf i).toNat)
              case atStart => exact ⟨1, by omega, by omega, by simp, rfl⟩
              case round =>
                obtain ⟨p, hp1, hpj, rfl, rfl⟩ := hrel
                by_cases hlt3 : p < j
                · have HP := Lib.hid (show V.ld j * 256 ^ (p + 1 - 1) = V.ld j * 256 ^ (p - 1) * 256 by
                    rw [Nat.mul_assoc, ← Nat.pow_succ]; congr 2; omega)
                  have hpb : V.ld j * 256 ^ (p - 1) * 256 < 18446744073709551616 := by rw [← HP.out]; exact pow_bd j k1 (by omega) _ (by omega)
                  generalize V.ld j * 256 ^ (p - 1) = D at *
                  go_wp2_with fail
                  refine ⟨⟨p + 1, by omega, by omega, by rw [HP.out]; simp, by go_num⟩, by simp [intOf]; omega⟩
                · obtain rfl : p = j := by omega
                  have hsub : ((N : Int) - ((V.ld p * 256 ^ (p - 1) : Nat) : Int)) = (A : Int) := by rw [← HN.out]; omega
                  generalize V.ld p * 256 ^ (p - 1) = D at *
                  by_cases hz : V.sz A < p
                  · have hne : (t.toList == (s.extract 0 p).toList) = false := by rw [beq_eq_false_iff_ne, HT.out, str_toList, ByteArray.toList_eq, take_data]; exact hcm.1 hz
                    have HZ := Lib.hid (HR.out.trans (if_pos hz))
                    clear hcm hz
                    go_wp2_with fail
                    go_region_held3 (fun _ => True) (exact trivial) (first | (go_at_call 22; refine (HB.out _).mono ?_; rintro e w2 ⟨rfl, hb2⟩))
                    go_wp2_with fail
                    go_ret3
                    exact ⟨by rw [HZ.out]; rfl, (Below.refl _ _).drew.trans hb2⟩
                  · have hne : (t.toList == (s.extract 0 p).toList) = true := by rw [beq_iff_eq, HT.out, str_toList, ByteArray.toList_eq, take_data]; exact hcm.2 hz
                    have HZ := Lib.hid (HR.out.trans (if_neg hz))
                    clear hcm hz
                    go_wp2_with fail
                    go_region_held3 (fun _ => True) (exact trivial) (first | (go_at_call 22; refine (HB.out _).mono ?_; rintro e w2 ⟨rfl, hb2⟩))
                    go_wp2_with fail
                    go_ret3
                    exact ⟨by rw [HZ.out]; rfl, (Below.refl _ _).drew.trans hb2⟩
        · have hm : valM s j = A := by
            rw [hone, show j = 9 from by omega]
            simp only [V.ld, Nat.reduceSub, Nat.reducePow]
            omega
          rw [hm]
          clear hm hone
          by_cases hz : V.sz A < j
          · have hne : (t.toList == (s.extract 0 j).toList) = false := by rw [beq_eq_false_iff_ne, HT.out, str_toList, ByteArray.toList_eq, take_data]; exact hcm.1 hz
            have HZ := Lib.hid (HR.out.trans (if_pos hz))
            clear hcm hz
            go_wp2_with fail
            go_region_held3 (fun _ => True) (exact trivial) (first | (go_at_call 22; refine (HB.out _).mono ?_; rintro e w2 ⟨rfl, hb2⟩))
            go_wp2_with fail
            go_ret3
            exact ⟨by rw [HZ.out]; rfl, (Below.refl _ _).drew.trans hb2⟩
          · have hne : (t.toList == (s.extract 0 j).toList) = true := by rw [beq_iff_eq, HT.out, str_toList, ByteArray.toList_eq, take_data]; exact hcm.2 hz
            have HZ := Lib.hid (HR.out.trans (if_neg hz))
            clear hcm hz
            go_wp2_with fail
            go_region_held3 (fun _ => True) (exact trivial) (first | (go_at_call 22; refine (HB.out _).mono ?_; rintro e w2 ⟨rfl, hb2⟩))
            go_wp2_with fail
            go_ret3
            exact ⟨by rw [HZ.out]; rfl, (Below.refl _ _).drew.trans hb2⟩
end Go.Proofs.Ytplhlnlonjlcaaa
