/- The walks of the reference: bigBytes, VaryBytes, varyLen, VaryOf. -/
import Derived.Test.YtplhlnlonjlcaaaVaryRead
import Derived.Test.YtplhlnlonjlcaaaOne
namespace Go.Proofs.Ytplhlnlonjlcaaa
open Go.RowKit
set_option linter.unusedVariables false

set_option maxHeartbeats 400000 in
theorem big_any (n k : Nat) (w : World) (hn : n < 18446744073709551616) (hk : k ≤ 9) :
    Calls Try.prog 28 #[.int .u64 n, .int .i64 k] w (TextPost (V.be k n) w) := by
  go_enter Try.func28, Try.ntmps28
  go_wp2_with fail
  go_loopw [0, 5, 6] (fun m t i wr => ∃ j : Nat, j ≤ k ∧ m = .int .u64 (n / 256 ^ j : Nat) ∧ t = .string (str (V.be j n)) ∧ i = .int .i64 j ∧ Below w.heap.size w wr) (fun _ _ i _ => k - (intOf i).toNat)
  case atStart => exact ⟨0, by omega, by simp, rfl, rfl, Below.refl _ _⟩
  case round =>
    obtain ⟨j, hj, rfl, rfl, rfl, hb⟩ := hrel
    by_cases hlt : j < k
    · have hle : n / 256 ^ j ≤ n := Nat.div_le_self _ _
      have HB := Lib.hid (show V.be (j + 1) n = UInt8.ofNat (n / 256 ^ j % 256) :: V.be j n by
        rw [V.be]; congr 1; apply UInt8.toNat_inj.mp; simp)
      have HD := Lib.hid (show n / 256 ^ (j + 1) = n / 256 ^ j / 256 by rw [Nat.pow_succ, Nat.div_div_eq_div_mul])
      have hsz : (str (V.be j n)).size ≤ 9 := by rw [str_size, V.be_length]; omega
      obtain ⟨t, ht⟩ : ∃ t, t = str (V.be j n) := ⟨_, rfl⟩
      rw [← ht] at hsz ⊢
      have HT := Lib.hid ht
      clear ht
      generalize n / 256 ^ j = q at *
      have h1 : (str [UInt8.ofNat (q % 256)]).size = 1 := rfl
      go_wp2_with fail
      refine (one_eq _ (q % 256) _ (by simp) (by omega)).mono ?_
      rintro e w1 ⟨rfl, hb1⟩
      go_wp2_with fail
      refine ⟨⟨j + 1, by omega, by rw [HD.out]; simp, ?_, by go_num, below_then hb hb1⟩, by simp [intOf]; omega⟩
      rw [HT.out, str_append, HB.out]; rfl
    · obtain rfl : j = k := by omega
      go_wp2_with fail
      go_ret
      exact ⟨rfl, hb⟩

theorem be_tail (k v c : Nat) : V.be k (v + c * 256 ^ k) = V.be k v := by
  apply V.be_congr; rw [Nat.add_mul_mod_self_right]

theorem enc_by (n k : Nat) (hk : V.sz n = k + 1) (hn : n < 18446744073709551616) :
    V.enc n = UInt8.ofNat (n / 256 ^ k % 256 + V.ld (k + 1)) :: V.be k n := by
  unfold V.enc
  rw [hk, V.be, Nat.add_sub_cancel, be_tail]
  congr 1
  apply UInt8.toNat_inj.mp
  rw [Nat.add_mul_div_right _ _ (Nat.pow_pos (by omega))]
  simp only [UInt8.toNat_ofNat']
  omega

theorem ld_step (k : Nat) (h1 : 1 ≤ k) (h8 : k ≤ 8) : V.ld (k + 1) = V.ld k / 2 + 128 := by
  have : k = 1 ∨ k = 2 ∨ k = 3 ∨ k = 4 ∨ k = 5 ∨ k = 6 ∨ k = 7 ∨ k = 8 := by omega
  rcases this with rfl | rfl | rfl | rfl | rfl | rfl | rfl | rfl <;> rfl

theorem be_text (j n : Nat) : ∃ t : ByteArray, t = str (V.be (j + 1) n) ∧ t.size = j + 1 ∧ (∀ h : 0 < t.size, t[0].toNat = n / 256 ^ j % 256) ∧ t.extract 1 t.size = str (V.be j n) := by
  refine ⟨_, rfl, by rw [str_size, V.be_length], ?_, ?_⟩
  · intro h
    show (UInt8.ofNat (n / 256 ^ j)).toNat = _
    simp
  · apply ByteArray.ext
    apply Array.toList_inj.mp
    rw [cut_data, str_data, str_data, V.be, List.drop_succ_cons, List.drop_zero]

def LimRel (n k : Nat) : Prop := k = 1 ∨ 128 ^ (k - 1) ≤ n

theorem lim_sz (n k : Nat) (h1 : 1 ≤ k) (h8 : k ≤ 8) (hr : LimRel n k) (h : n < 128 ^ k) : V.sz n = k := by
  have hs := V.sz_spec n
  unfold LimRel at hr
  have : k = 1 ∨ k = 2 ∨ k = 3 ∨ k = 4 ∨ k = 5 ∨ k = 6 ∨ k = 7 ∨ k = 8 := by omega
  rcases this with rfl | rfl | rfl | rfl | rfl | rfl | rfl | rfl <;> simp only [Nat.reduceSub, Nat.reducePow] at h hr <;> omega

theorem lim_bd (k : Nat) (h9 : k ≤ 9) : 128 ^ k < 18446744073709551616 := by
  have : 128 ^ k ≤ 128 ^ 9 := Nat.pow_le_pow_right (by omega) h9
  omega

set_option maxHeartbeats 400000 in
theorem vbytes_any (n : Nat) (w : World) (hn : n < 18446744073709551616) :
    Calls Try.prog 22 #[.int .u64 n] w (TextPost (V.enc n) w) := by
  go_enter Try.func22, Try.ntmps22
  go_wp2_with fail
  go_loopw [2, 3, 4, 5, 6] (fun _ m f i _ wr => ∃ k : Nat, 1 ≤ k ∧ k ≤ 9 ∧ LimRel n k ∧ m = .int .u64 (128 ^ k : Nat) ∧ f = .int .i64 (V.ld k : Nat) ∧ i = .int .i64 k ∧ Below w.heap.size w wr) (fun _ _ _ i _ _ => 10 - (intOf i).toNat)
  case atStart => exact ⟨1, by omega, by omega, Or.inl rfl, rfl, rfl, rfl, Below.refl _ _⟩
  case round =>
    obtain ⟨k, h1, h9, hr, rfl, rfl, rfl, hb⟩ := hrel
    have hL := lim_bd k h9
    by_cases h8 : k ≤ 8
    · by_cases hlt : n < 128 ^ k
      · have hsz := lim_sz n k h1 h8 hr hlt
        obtain ⟨j, rfl⟩ : ∃ j, k = j + 1 := ⟨k - 1, by omega⟩
        have HE := Lib.hid (enc_by n j hsz hn)
        generalize 128 ^ (j + 1) = L at *
        clear hsz hr
        go_wp2_with fail
        refine (big_any n (j + 1) _ hn (by omega)).mono ?_
        rintro e w1 ⟨rfl, hb1⟩
        obtain ⟨t, ht, hts, hth, htc⟩ := be_text j n
        rw [← ht]
        have HTC := Lib.hid htc
        have HTH := Lib.hid hth
        have HTS := Lib.hid hts
        have h0 : 0 < t.size := by omega
        have hle : t.size ≤ 9 := by omega
        have hex : (t.extract 1 t.size).size ≤ 9 := by simp; omega
        have hh : t[0].toNat < 256 := t[0].toNat_lt
        have hld : V.ld (j + 1) ≤ 255 := by
          rcases nine (k := j + 1) (by omega) (by omega) with h | h | h | h | h | h | h | h | h <;> rw [h] <;> decide
        have hsum : IntKind.i64.wrap ((t[0].toNat : Int) + (V.ld (j + 1) : Int)) = (t[0].toNat : Int) + (V.ld (j + 1) : Int) := IntWalk.i64_in _ (by omega)
        have hwr : IntKind.i64.wrap (t[0].toNat : Int) = (t[0].toNat : Int) := IntWalk.i64_in _ (by omega)
        have hI : (1 : Int) ≤ (t.size : Int) := by omega
        obtain ⟨x, hx⟩ : ∃ x, x = UInt8.ofNat (t[0].toNat + V.ld (j + 1)) := ⟨_, rfl⟩
        have HO := Lib.hid (fun w => show Calls Try.prog 29 #[.int .i64 ((t[0].toNat : Int) + (V.ld (j + 1) : Int))] w (TextPost [x] w) by
          rw [hx]; exact one_eq _ _ w (by simp) (by omega))
        have HX := Lib.hid hx
        have hs1 : (str [x]).size = 1 := rfl
        clear hx
        have hcat : ¬ 9223372036854775807 < 1 + (t.size - 1) := by omega
        clear ht hth htc hts
        go_wp2_with fail
        go_region_held3 (fun _ => True) (exact trivial) (first | (go_at_call 29; refine (HO.out _).mono ?_; rintro e w2 ⟨rfl, hb2⟩))
        go_wp2_with fail
        go_ret
        refine ⟨?_, below_then (below_then hb hb1) ((Below.refl _ _).drew.trans hb2)⟩
        show Ending.returned (Value.string _) = _
        rw [HTC.out, str_append, HE.out, HX.out, HTH.out h0]; rfl
      · have hr' : LimRel n (k + 1) := Or.inr (by rw [Nat.add_sub_cancel]; omega)
        have HP := Lib.hid (show 128 ^ (k + 1) = 128 ^ k * 128 from Nat.pow_succ 128 k)
        have HLD := Lib.hid (ld_step k h1 h8)
        have hL2 : 128 ^ k * 128 < 18446744073709551616 := by rw [← HP.out]; exact lim_bd (k + 1) (by omega)
        have hld : V.ld k ≤ 256 := Nat.sub_le _ _
        generalize 128 ^ k = L at *
        generalize V.ld k = d at *
        go_wp2_with fail
        refine ⟨⟨k + 1, by omega, by omega, hr', by rw [HP.out]; simp, by rw [HLD.out]; simp, by go_num, hb⟩, by simp [intOf]; omega⟩
    · obtain rfl : k = 9 := by omega
      have HE := Lib.hid (enc_by n 8 (by have hs := V.sz_spec n; unfold LimRel at hr; simp only [Nat.reduceSub, Nat.reducePow] at hr; omega) hn)
      have hs1 : (str [UInt8.ofNat 255]).size = 1 := rfl
      have hs8 : (str (V.be 8 n)).size = 8 := by rw [str_size, V.be_length]
      have HZ := Lib.hid (show n / 256 ^ 8 % 256 = 0 by omega)
      generalize 128 ^ 9 = L at *
      go_wp2_with fail
      refine (one_any 255 _ (by omega)).mono ?_
      rintro e w1 ⟨rfl, hb1⟩
      go_wp2_with fail
      refine (big_any n 8 _ hn (by omega)).mono ?_
      rintro e w2 ⟨rfl, hb2⟩
      go_wp2_with fail
      go_ret
      refine ⟨?_, below_then (below_then hb hb1) hb2⟩
      show Ending.returned (Value.string _) = _
      rw [str_append, HE.out, HZ.out]; rfl
end Go.Proofs.Ytplhlnlonjlcaaa
