/- The walk of hypostyleref.bitsAt. -/
import Derived.Test.YtpjmpbpbfjemdaaBitsTB
namespace Go.Proofs.Ytpjmpbpbfjemdaa
open Go.RowKit
set_option linter.unusedVariables false

set_option maxHeartbeats 1000000 in
theorem bitsAt_any (s : ByteArray) (f n : Nat) (w : World) (hn : n ≤ 64) (hf : f + n ≤ 8 * s.size) (hb : f + n ≤ 1048576) :
    Calls Try.prog 71 #[.string s, .int .i64 f, .int .i64 n] w fun e w' => e = .returned (.int .u64 ((B.leN s.data.toList / 2 ^ f % 2 ^ n : Nat) : Int)) ∧ w = w' := by
  have HTB := Lib.hid (fun p h1 h2 => textBit_any s p w h1 h2)
  generalize B.leN s.data.toList = X at *
  go_enter Try.func71, Try.ntmps71
  go_wp2_with fail
  go_loop [7, 8] (fun v k => ∃ t : Nat, t ≤ n ∧ k = .int .i64 ((n : Int) - 1 - (t : Int)) ∧ v = .int .u64 ((X / 2 ^ (f + n - t) % 2 ^ t : Nat) : Int)) (fun _ k => (intOf k + 1).toNat)
  case atStart => exact ⟨0, by omega, by simp, by simp [Nat.mod_one]⟩
  case round =>
    obtain ⟨t, ht, rfl, rfl⟩ := hrel
    by_cases hlt : t < n
    · have hst := bits_step2 X f n t hlt
      have hv : X / 2 ^ (f + n - t) % 2 ^ t < 2 ^ 63 := Nat.lt_of_lt_of_le (Nat.mod_lt _ (B.pos2 t)) (Nat.pow_le_pow_right (by omega) (by omega))
      have htb := HTB.out (f + (n - 1 - t)) (by omega) (by omega)
      have hb2 : X / 2 ^ (f + (n - 1 - t)) % 2 < 2 := by omega
      generalize X / 2 ^ (f + n - t) % 2 ^ t = v at *
      generalize X / 2 ^ (f + (n - 1 - t)) % 2 = bt at *
      have hki : ((f : Int) + ((n : Int) - 1 - (t : Int))) = ((f + (n - 1 - t) : Nat) : Int) := by omega
      have hwi : IntKind.i64.wrap ((f : Int) + ((n : Int) - 1 - (t : Int))) = ((f + (n - 1 - t) : Nat) : Int) := by rw [hki, IntKind.wrap_i64]; omega
      generalize f + (n - 1 - t) = p at *
      have g1 : decide ((0 : Int) ≤ (n : Int) - 1 - (t : Int)) = true := by simp; omega
      have hw1 : IntKind.u64.wrap ((v : Int) * 2) = (v : Int) * 2 := by rw [IntKind.wrap_u64]; omega
      have hw2 : IntKind.u64.wrap ((v : Int) * 2 + (bt : Int)) = (v : Int) * 2 + (bt : Int) := by rw [IntKind.wrap_u64]; omega
      have HST := Lib.hid hst
      have HT := Lib.hid htb
      clear hst htb
      go_wp2_with fail
      refine (HT.out).mono ?_
      rintro e w1 ⟨rfl, rfl⟩
      go_wp2_with fail
      refine ⟨⟨t + 1, by omega, by congr 1; omega, ?_⟩, by simp [intOf]; omega⟩
      rw [HST.out]; congr 1
    · obtain rfl : t = n := by omega
      have g1 : decide ((0 : Int) ≤ (t : Int) - 1 - (t : Int)) = false := by simp; omega
      rw [Nat.add_sub_cancel]
      go_wp2_with fail
      go_ret
      exact ⟨rfl, rfl⟩
end Go.Proofs.Ytpjmpbpbfjemdaa
