/- The walks of the reference: textBit. -/
import Derived.Test.YtpjmpbpbfjemdaaBitsW6
namespace Go.Proofs.Ytpjmpbpbfjemdaa
open Go.RowKit
set_option linter.unusedVariables false

set_option maxHeartbeats 400000 in
theorem textBit_any (s : ByteArray) (p : Nat) (w : World) (hp : p / 8 < s.size) (hp2 : p ≤ 1048576) :
    Calls Try.prog 70 #[.string s, .int .i64 p] w fun e w' => e = .returned (.int .u64 ((B.leN s.data.toList / 2 ^ p % 2 : Nat) : Int)) ∧ w = w' := by
  have hb := B.leN_bit s.data.toList p (by rw [len_data]; exact hp)
  have hx : s[p / 8].toNat < 256 := s[p / 8].toNat_lt
  have hbe : (s.data.toList[p / 8]'(by rw [len_data]; exact hp)).toNat = s[p / 8].toNat := rfl
  rw [hbe] at hb
  generalize hres : B.leN s.data.toList / 2 ^ p % 2 = res at *
  have HB := Lib.hid hb
  have hr : p % 8 < 8 := by omega
  clear hb hbe hres
  go_enter Try.func70, Try.ntmps70
  go_wp2_with fail
  go_loop [5, 6] (fun v i => ∃ j : Nat, j ≤ p % 8 ∧ i = .int .i64 j ∧ v = .int .i64 ((s[p / 8].toNat / 2 ^ j : Nat) : Int)) (fun _ i => p % 8 - (intOf i).toNat)
  case atStart => exact ⟨0, by omega, rfl, by simp⟩
  case round =>
    obtain ⟨j, hj, rfl, rfl⟩ := hrel
    have hle : s[p / 8].toNat / 2 ^ j ≤ s[p / 8].toNat := Nat.div_le_self _ _
    by_cases hlt : j < p % 8
    · have HD := Lib.hid (show s[p / 8].toNat / 2 ^ (j + 1) = s[p / 8].toNat / 2 ^ j / 2 by rw [Nat.pow_succ, Nat.div_div_eq_div_mul])
      generalize s[p / 8].toNat / 2 ^ j = y at *
      go_wp2_with fail
      exact ⟨⟨j + 1, by omega, by go_num, by rw [HD.out]; simp⟩, by simp [intOf]; omega⟩
    · obtain rfl : j = p % 8 := by omega
      generalize s[p / 8].toNat / 2 ^ (p % 8) = y at *
      have hw : IntKind.u64.wrap ((y : Int) % 2) = (y : Int) % 2 := by rw [IntKind.wrap_u64]; omega
      go_wp2_with fail
      go_ret
      refine ⟨?_, rfl⟩
      show Ending.returned (Value.int .u64 _) = _
      congr 2
      rw [← HB.out]; simp

theorem bits_step2 (X f n t : Nat) (ht : t < n) : X / 2 ^ (f + n - (t + 1)) % 2 ^ (t + 1) = X / 2 ^ (f + n - t) % 2 ^ t * 2 + X / 2 ^ (f + (n - 1 - t)) % 2 := by
  have e1 : f + n - (t + 1) = f + (n - 1 - t) := by omega
  have e2 : f + n - t = f + (n - 1 - t) + 1 := by omega
  rw [e1, e2, show 2 ^ (f + (n - 1 - t) + 1) = 2 ^ (f + (n - 1 - t)) * 2 from Nat.pow_succ 2 _, ← Nat.div_div_eq_div_mul]
  generalize X / 2 ^ (f + (n - 1 - t)) = Y
  rw [Nat.pow_succ, Nat.mul_comm (2 ^ t), Nat.mod_mul]; omega

theorem bit_one (T M p : Nat) (hp : M ≤ p) (h : T / 2 ^ p % 2 = 1) : T / 2 ^ M ≠ 0 := by
  intro e
  have : T / 2 ^ p = T / 2 ^ M / 2 ^ (p - M) := by rw [Nat.div_div_eq_div_mul, ← Nat.pow_add]; congr 2; omega
  rw [this, e] at h; simp at h
theorem low_step (T M p : Nat) (hp : M ≤ p) (h : T / 2 ^ M % 2 ^ (p - M) = 0) (hb : T / 2 ^ p % 2 = 0) : T / 2 ^ M % 2 ^ (p + 1 - M) = 0 := by
  have e : p + 1 - M = (p - M) + 1 := by omega
  have : T / 2 ^ p = T / 2 ^ M / 2 ^ (p - M) := by rw [Nat.div_div_eq_div_mul, ← Nat.pow_add]; congr 2; omega
  rw [this] at hb
  rw [e, mod_snoc, h, hb]; simp
end Go.Proofs.Ytpjmpbpbfjemdaa
